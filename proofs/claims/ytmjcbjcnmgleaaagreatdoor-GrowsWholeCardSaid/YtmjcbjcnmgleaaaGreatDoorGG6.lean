/-
  The keeper of segments, in plain words: its lines, what it owns and tells, and that a step of it keeps what holds of the memory; no condition.
  A step of the keeper of segments, in plain words: it keeps what holds; no condition.
  A step of the keeper of segments, in plain words: a Shrink's lines keep what holds; no condition.
-/
import Derived.Test.YtmjcbjcnmgleaaaGreatDoorGG3
namespace Go.Proofs.YtmjcbjcnmgleaaaGreatDoor
open Go.RowKit Go.Maps

def KO.next (o : KO) : KO := if o.slot + 1 = 8 * o.seg + 8 then { o with slot := o.slot + 1, ln := 0 } else { o with slot := o.slot + 1, ln := 11 }
def KO.turn (o : KO) : KO := { o with slot := 8 * o.seg, ln := 11 }
def KO.seven (o : KO) : KO := if o.kept = [] then { o with ln := 3 } else { o with ln := 7, psh := ⟨1, 0, o.kept.getLastD 0⟩ }
def turnF (o : KO) (m : MA) : KO × MA :=
  if o.ln = 11 then (if stW (m.hdr o.slot) = 3 then { o with ln := 12, w := m.hdr o.slot } else ({ o with w := m.hdr o.slot } : KO).next, m)
  else if o.ln = 12 then (if m.hdr o.slot = o.w then ({ o with ln := 13 }, m.setH o.slot (headerW 0 (gW o.w))) else (o.next, m))
  else if o.ln = 13 then ({ o with ln := 14, w := m.spk o.seg }, m)
  else if o.ln = 14 then (if m.spk o.seg = o.w then ({ o with ln := 15, psh := ⟨1, 0, o.slot⟩ }, m.setP o.seg (down64 o.w)) else ({ o with ln := 13 }, m))
  else if o.ln = 15 then (if (pushF o.psh m.ms).1.nx = 0 then ({ o with psh := (pushF o.psh m.ms).1 } : KO).next else { o with psh := (pushF o.psh m.ms).1 }, { m with ms := (pushF o.psh m.ms).2 })
  else (o, m)
def shrinkF (o : KO) (m : MA) : KO × MA :=
  if o.ln = 1 then (if m.sst o.seg = 1 then { o with ln := 2 } else { o with ln := 0 }, m)
  else if o.ln = 2 then (if m.sst o.seg = 1 then ({ o with ln := 3 }, m.setD o.seg 2) else ({ o with ln := 0 }, m))
  else if o.ln = 3 then (if m.spk o.seg = 8 then { o with ln := 4 } else if o.looks ≤ 0 then { o with ln := 8 } else { o with looks := o.looks - 1, ln := 5, psh := ⟨1, 0, 0⟩ }, m)
  else if o.ln = 4 then (if m.sst o.seg = 2 then ({ o with ln := 0 }, m.setD o.seg 0) else ({ o with ln := 0 }, m))
  else if o.ln = 5 then
    (if (popF o.psh m.ms).1.nx = 0 then
       (if wSlot (popF o.psh m.ms).1.h < 0 then ({ o with psh := (popF o.psh m.ms).1 } : KO).seven
        else if segF (wSlot (popF o.psh m.ms).1.h) = o.seg then { o with ln := 6, pk := newPark (wSlot (popF o.psh m.ms).1.h) }
        else { o with kept := o.kept ++ [wSlot (popF o.psh m.ms).1.h], psh := ⟨1, 0, 0⟩ })
     else { o with psh := (popF o.psh m.ms).1 }, { m with ms := (popF o.psh m.ms).2 })
  else if o.ln = 6 then (if (parkF o.pk m).1.ln = 0 then { o with ln := 5, psh := ⟨1, 0, 0⟩, pk := (parkF o.pk m).1 } else { o with pk := (parkF o.pk m).1 }, (parkF o.pk m).2)
  else if o.ln = 7 then (if (pushF o.psh m.ms).1.nx = 0 then ({ o with kept := o.kept.dropLast } : KO).seven else { o with psh := (pushF o.psh m.ms).1 }, { m with ms := (pushF o.psh m.ms).2 })
  else if o.ln = 8 then (if m.sst o.seg = 2 then (o.turn, m.setD o.seg 1) else ({ o with ln := 0 }, m))
  else (o, m)
def growF (o : KO) (m : MA) : KO × MA :=
  if o.ln = 1 then (if m.sst o.seg = 0 then { o with ln := 2 } else { o with ln := 0 }, m)
  else if o.ln = 2 then (if m.sst o.seg = 0 then (o.turn, m.setD o.seg 1) else ({ o with ln := 0 }, m))
  else (o, m)
def kF (o : KO) (m : MA) : KO × MA := if 11 ≤ o.ln then turnF o m else if o.sh = false then growF o m else shrinkF o m
def ownK (K : KO) : List Int := (if K.ln = 6 then ownQ K.pk else []) ++ K.kept ++ (if K.ln = 13 ∨ K.ln = 14 ∨ K.ln = 15 then [K.slot] else [])
def parkK (K : KO) : List PO := if K.ln = 6 then lsQ K.pk else []
def tellK (K : KO) (g : Int) : Int := if K.ln = 6 then tlQ K.pk g else if (K.ln = 13 ∨ K.ln = 14) ∧ K.seg = g then 1 else 0
/-- How the keeper stands. -/
def KG (M : MA) (S : List Int) (T mo : Int) (K : KO) : Prop :=
  (0 ≤ K.seg ∧ K.seg < 3) ∧ (∀ z ∈ K.kept, stW (M.hdr z) = 0) ∧
  ((K.kept = [] ∧ (K.ln = 0 ∨ K.ln = 1 ∨ K.ln = 2)) ∨
   (K.sh = true ∧ ((K.kept = [] ∧ (K.ln = 3 ∨ K.ln = 4 ∨ K.ln = 8)) ∨ (K.ln = 5 ∧ OpOk 24 M.ms S T (.pop K.psh)) ∨ (K.ln = 6 ∧ K.pk.ln ≠ 0 ∧ PkG M S T mo K.pk) ∨ (K.ln = 7 ∧ K.kept ≠ [] ∧ K.psh.to = K.kept.getLastD 0 ∧ OpOk 24 M.ms S T (.push K.psh)))) ∨
   (K.kept = [] ∧ (8 * K.seg ≤ K.slot ∧ K.slot < 8 * K.seg + 8) ∧ (K.ln = 11 ∨ (K.ln = 12 ∧ K.w = headerW 3 (gW K.w) ∧ 0 ≤ gW K.w ∧ gW K.w ≤ mo) ∨ ((K.ln = 13 ∨ K.ln = 14) ∧ stW (M.hdr K.slot) = 0) ∨ (K.ln = 15 ∧ stW (M.hdr K.slot) = 0 ∧ K.psh.to = K.slot ∧ OpOk 24 M.ms S T (.push K.psh)))))
section
variable {S S' : List Int} {T T' : Int} {M M' : MA} {N mo : Int} {own own' : List Int} {pk pk' : List PO} {tv tv' tl tl' tR : Int → Int} {cO cO' cR : Int → Nat} {P P' PR : PO → Prop} {K K' : KO}
/-- A step of the keeper's that turns no state and no parked slot but as a Park does. -/
theorem Glob.step (G : Glob N mo cO P tl K M S T) (E : Ef mo M S T own pk tv M' S' T' own' pk' tv') (hc : ∀ z, cO z = own.count z + cR z) (hc' : ∀ z, cO' z = own'.count z + cR z) (hP : ∀ q, P q ↔ q ∈ pk ∨ PR q) (hP' : ∀ q, P' q ↔ q ∈ pk' ∨ PR q) (ht : ∀ g, tl g = tv g + tR g) (ht' : ∀ g, tl' g = tv' g + tR g)
    (hd : ∀ g, (K'.sh = true ∧ K'.seg = g ∧ 3 ≤ K'.ln ∧ K'.ln ≤ 8) ↔ (K.sh = true ∧ K.seg = g ∧ 3 ≤ K.ln ∧ K.ln ≤ 8)) (hu : 11 ≤ K'.ln → 11 ≤ K.ln ∧ K'.seg = K.seg) (h4 : K'.sh = true → K'.ln = 4 → (∀ z, segF z = K'.seg → rz M' z = 1) ∧ ∀ q, P' q → q.ln = 9 → segF q.sl ≠ K'.seg)
    (hT : ∀ z, stW (M.hdr z) = 3 → M'.hdr z = M.hdr z → Tn K M z → Tn K' M' z) : Glob N mo cO' P' tl' K' M' S' T' := by
  have G' : Glob N mo cO' P' tl' K M' S' T' := G.thread E hc hc' hP hP' ht ht'
  refine ⟨G'.nn, G'.stk, G'.cnt, G'.frm, G'.sn, G'.rng, G'.sum, G'.st, fun g h0 h1 => (G'.dr g h0 h1).trans (hd g).symm, fun h => by rw [(hu h).2]; exact G'.up (hu h).1, fun g h0 h1 h => ?_, fun z h0 h1 h2 h3 => ?_⟩
  · rcases h with h | ⟨a, b, rfl⟩
    · exact G'.none g h0 h1 (.inl h)
    · exact h4 a b
  · rw [E.sst] at h2
    rcases E.resp z h2 h3 with ⟨q, hq, hR⟩ | ⟨he, hno⟩
    · exact .inl ⟨q, (hP' q).2 (.inl hq), hR⟩
    · rw [he] at h3
      rcases G.resp z h0 h1 h2 h3 with ⟨q, hq, hR⟩ | ht
      · rcases (hP q).1 hq with hq | hq
        · exact absurd hR (hno q hq)
        · exact .inl ⟨q, (hP' q).2 (.inr hq), hR.1, hR.2.1, hR.2.2.1, by rw [he]; exact hR.2.2.2⟩
      · exact .inr (hT z h3 he ht)
theorem setD_ne {g v y : Int} (h : y ≠ g) : (M.setD g v).sst y = M.sst y := by simp [MA.setD, h]
theorem setD_at (g v : Int) : (M.setD g v).sst g = v := by simp [MA.setD]
/-- A step of the keeper's that turns a segment's state. -/
theorem Glob.setD {v : Int} (G : Glob N mo cO P tl K M S T) (hv : v = 0 ∨ v = 1 ∨ v = 2) (he : K'.seg = K.seg)
    (h2 : v = 2 ↔ (K'.sh = true ∧ 3 ≤ K'.ln ∧ K'.ln ≤ 8)) (ho : ∀ g, 0 ≤ g → g < 3 → g ≠ K.seg → M.sst g ≠ 2) (hu : 11 ≤ K'.ln → v = 1) (h4 : K'.ln ≠ 4) (h0 : v = 0 → K.sh = true ∧ K.ln = 4)
    (hr : v = 1 → 11 ≤ K'.ln ∧ K'.slot = 8 * K.seg ∧ K'.ln = 11) (hno : ¬ 11 ≤ K.ln) : Glob N mo cO P tl K' (M.setD K.seg v) S T := by
  refine ⟨G.nn, G.stk, G.cnt, G.frm, G.sn, G.rng, G.sum, fun g a b => ?_, fun g a b => ?_, fun h => by rw [he, setD_at]; exact hu h, fun g a b h => ?_, fun z a b h3 h5 => ?_⟩
  · by_cases h : g = K.seg
    · subst h; rw [setD_at]; exact hv
    · rw [setD_ne h]; exact G.st g a b
  · by_cases h : g = K.seg
    · subst h
      rw [setD_at, h2]
      exact ⟨fun k => ⟨k.1, he, k.2⟩, fun k => ⟨k.1, k.2.2⟩⟩
    · rw [setD_ne h]
      exact ⟨fun k => absurd k (ho g a b h), fun k => absurd (k.2.1.symm.trans he) h⟩
  · rcases h with h | ⟨_, h, _⟩
    · by_cases e : g = K.seg
      · subst e
        rw [setD_at] at h
        obtain ⟨k1, k2⟩ := h0 h
        exact G.none _ a b (.inr ⟨k1, k2, rfl⟩)
      · rw [setD_ne e] at h
        exact G.none g a b (.inl h)
    · exact absurd h h4
  · by_cases e : segF z = K.seg
    · rw [e, setD_at] at h3
      obtain ⟨k1, k2, k3⟩ := hr h3
      refine .inr ⟨k1, he.trans e.symm, ?_⟩
      have h8 : 8 * K.seg ≤ z := by rw [← e]; unfold segF; omega
      by_cases hz : z = 8 * K.seg
      · exact .inr ⟨by omega, .inl k3⟩
      · exact .inl (by omega)
    · rw [setD_ne e] at h3
      rcases G.resp z a b h3 h5 with h | h
      · exact .inl h
      · exact absurd h.1 hno
/-- A step of the keeper's that turns a parked slot back. -/
theorem Glob.turn (G : Glob N mo cO P tl K M S T) (hin : 8 * K.seg ≤ K.slot ∧ K.slot < 8 * K.seg + 8) (hl : K.ln = 12) (hw : M.hdr K.slot = K.w) (hf : K.w = headerW 3 (gW K.w)) (g0 : 0 ≤ gW K.w) (g1 : gW K.w ≤ mo) (hmo : mo < 4294967296)
    (hc' : ∀ z, cO' z = cO z + if z = K.slot then 1 else 0) (ht' : ∀ g, tl' g = tl g + if K.seg = g then 1 else 0) (eK : K' = { K with ln := 13 }) : Glob N mo cO' P tl' K' (M.setH K.slot (headerW 0 (gW K.w))) S T := by
  subst eK
  have y3 : stW (M.hdr K.slot) = 3 := stW_hdr' (hw.trans hf) (by decide) (by decide) g0 (by omega)
  have y0 : stW ((M.setH K.slot (headerW 0 (gW K.w))).hdr K.slot) = 0 := stW_hdr' (setH_at _ _) (by decide) (by decide) g0 (by omega)
  have z0 : rz M K.slot = 1 := by rw [rz_of y3]; simp
  have z1 : rz (M.setH K.slot (headerW 0 (gW K.w))) K.slot = 0 := by rw [rz_of y0]; simp
  have hsg : segF K.slot = K.seg := by unfold segF; omega
  have hst := G.up (by omega)
  refine ⟨G.nn, G.stk, fun z => ?_, fun z hz => ?_, fun z hz => ?_, G.rng, fun g a b => ?_, G.st, fun g a b => ?_, fun _ => hst, fun g a b h => ?_, fun z a b h3 h5 => ?_⟩
  · have h1 := G.cnt z
    have h2 := hc' z
    by_cases h : z = K.slot
    · subst h
      rw [if_pos rfl] at h2
      rw [z0] at h1
      rw [z1]
      omega
    · rw [if_neg h] at h2
      rw [rz_eq (setH_ne h)]
      omega
  · by_cases h : z = K.slot
    · subst h; exact ⟨0, gW K.w, setH_at _ _, by decide, by decide, g0, g1⟩
    · rw [setH_ne h]; exact G.frm z hz
  · by_cases h : z = K.slot
    · subst h; exact y0
    · rw [setH_ne h]; exact G.sn z hz
  · have h1 := G.sum g a b
    have h2 := nR_upd (M := M) (M' := M.setH K.slot (headerW 0 (gW K.w))) (x := K.slot) (fun y hy => setH_ne hy) g
    have h3 := ht' g
    rw [z0, z1, hsg] at h2
    show (M.spk g - _ - _) % _ = 0
    by_cases h : K.seg = g
    · simp [h] at h2 h3; omega
    · simp [h] at h2 h3; omega
  · have := G.dr g a b
    constructor
    · intro h; have := this.1 h; omega
    · rintro ⟨_, _, _, h⟩; exact absurd h (by simp)
  · rcases h with h | ⟨_, h, _⟩
    · have hg : K.seg ≠ g := fun e => by
        rw [e] at hst
        have : M.sst g = 0 := h
        omega
      obtain ⟨n1, n2⟩ := G.none g a b (.inl h)
      exact ⟨fun z hz => by rw [rz_eq (setH_ne fun e => hg (by rw [← hsg, ← e]; exact hz))]; exact n1 z hz, n2⟩
    · exact absurd h (by simp)
  · have hz : z ≠ K.slot := fun e => by subst e; omega
    rw [setH_ne hz] at h5
    rcases G.resp z a b h3 h5 with ⟨q, hq, hR⟩ | ⟨t1, t2, t3⟩
    · exact .inl ⟨q, hq, hR.1, hR.2.1, hR.2.2.1, by rw [setH_ne hz]; exact hR.2.2.2⟩
    · refine .inr ⟨by show (11 : Int) ≤ 13; decide, t2, .inl ?_⟩
      rcases t3 with h | ⟨h, _⟩
      · exact h
      · exact absurd h.symm hz
end
end Go.Proofs.YtmjcbjcnmgleaaaGreatDoor
namespace Go.Proofs.YtmjcbjcnmgleaaaGreatDoor
open Go.RowKit Go.Maps

/-- What a step of the keeper's leaves. -/
def KOut (N mo : Int) (cR : Int → Nat) (PR : PO → Prop) (tR : Int → Int) (M : MA) (S : List Int) (T : Int) (K' : KO) (M' : MA) : Prop :=
  ∃ S' T', Glob N mo (fun z => (ownK K').count z + cR z) (fun q => q ∈ parkK K' ∨ PR q) (fun g => tellK K' g + tR g) K' M' S' T' ∧ KG M' S' T' mo K' ∧ T ≤ T' ∧ T' ≤ T + 1 ∧ (∀ z, 0 < cR z → M'.hdr z = M.hdr z) ∧ ∃ x, (∀ z, 0 < cR z → z ≠ x) ∧ Mv 24 x M.ms S T M'.ms S' T'
section
variable {S S' : List Int} {T T' : Int} {M M' : MA} {N mo : Int} {own own' : List Int} {pk pk' : List PO} {tv tv' tl tl' tR : Int → Int} {cO cO' cR : Int → Nat} {P P' PR : PO → Prop} {K K' : KO}
theorem Ef.app (E : Ef mo M S T own pk tv M' S' T' own' pk' tv') (e : List Int) : Ef mo M S T (own ++ e) pk tv M' S' T' (own' ++ e) pk' tv' := by
  refine ⟨E.stk, E.t0, E.t1, ?_, fun z => ?_, fun z hz => ?_, E.sn, E.sst, E.sum, E.rng, E.out, E.nine, E.resp⟩
  · obtain ⟨x, hx, h⟩ := E.mv
    exact ⟨x, hx.imp (fun h => List.mem_append_left _ h) id, h⟩
  · have := E.cnt z
    rw [List.count_append, List.count_append]
    omega
  · obtain ⟨h1, h2⟩ := E.hdr z hz
    exact ⟨h1.imp (fun h => List.mem_append_left _ h) id, h2⟩
theorem Ef.more (E : Ef mo M S T own pk tv M' S' T' own' [] tv') (h9 : ∀ q ∈ pk', q.ln ≠ 9) : Ef mo M S T own pk tv M' S' T' own' pk' tv' :=
  ⟨E.stk, E.t0, E.t1, E.mv, E.cnt, E.hdr, E.sn, E.sst, E.sum, E.rng, E.out, fun q hq h => absurd h (h9 q hq), fun z h1 h3 => by
    rcases E.resp z h1 h3 with ⟨q, hq, _⟩ | h
    · simp at hq
    · exact .inr h⟩
theorem Glob.cong (G : Glob N mo cO P tl K M S T) (hc : ∀ z, cO' z = cO z) (hP : ∀ q, P' q ↔ P q) (ht : ∀ g, tl' g = tl g) : Glob N mo cO' P' tl' K M S T :=
  ⟨G.nn, G.stk, fun z => by rw [hc]; exact G.cnt z, G.frm, G.sn, G.rng, fun g a b => by rw [ht]; exact G.sum g a b, G.st, G.dr, G.up, fun g a b h => ⟨(G.none g a b h).1, fun q hq => (G.none g a b h).2 q ((hP q).1 hq)⟩, fun z a b h2 h3 => (G.resp z a b h2 h3).imp (fun ⟨q, hq, h⟩ => ⟨q, (hP q).2 hq, h⟩) id⟩
abbrev GK (N mo : Int) (cR : Int → Nat) (PR : PO → Prop) (tR : Int → Int) (K : KO) (M : MA) (S : List Int) (T : Int) : Prop := Glob N mo (fun z => (ownK K).count z + cR z) (fun q => q ∈ parkK K ∨ PR q) (fun g => tellK K g + tR g) K M S T
/-- By what it makes of the list, of what is owned, of what is told. -/
theorem kout_ef (G : GK N mo cR PR tR K M S T) (E : Ef mo M S T (ownK K) (parkK K) (tellK K) M' S' T' (ownK K') (parkK K') (tellK K')) (hsh : K'.sh = K.sh) (hseg : K'.seg = K.seg) (hrg : (3 ≤ K'.ln ∧ K'.ln ≤ 8) ↔ (3 ≤ K.ln ∧ K.ln ≤ 8)) (hu : 11 ≤ K'.ln → 11 ≤ K.ln)
    (h4 : K'.sh = true → K'.ln = 4 → (∀ z, segF z = K'.seg → rz M' z = 1) ∧ ∀ q, (q ∈ parkK K' ∨ PR q) → q.ln = 9 → segF q.sl ≠ K'.seg) (hT : ∀ z, stW (M.hdr z) = 3 → M'.hdr z = M.hdr z → Tn K M z → Tn K' M' z) (ok : KG M' S' T' mo K') : KOut N mo cR PR tR M S T K' M' := by
  have hx : ∀ {z}, 0 < cR z → M'.hdr z = M.hdr z ∧ z ∉ ownK K := fun {z} hz => E.rest G (cR := cR) (fun _ => rfl) hz
  refine ⟨S', T', G.step E (cR := cR) (PR := PR) (tR := tR) (fun _ => rfl) (fun _ => rfl) (fun _ => Iff.rfl) (fun _ => Iff.rfl) (fun _ => rfl) (fun _ => rfl) (fun g => by rw [hsh, hseg, hrg]) (fun h => ⟨hu h, hseg⟩) h4 hT, ok, E.t0, E.t1, fun z hz => (hx hz).1, ?_⟩
  obtain ⟨x, h1, h2⟩ := E.mv
  refine ⟨x, fun z hz e => ?_, h2⟩
  subst e
  rcases h1 with h1 | h1
  · exact (hx hz).2 h1
  · have := (G.own24 (z := z) (by show 0 < (ownK K).count z + cR z; omega)).1
    omega
/-- A step that turns nothing. -/
theorem kout_still (G : GK N mo cR PR tR K M S T) (hsh : K'.sh = K.sh) (hseg : K'.seg = K.seg) (ho : ownK K' = ownK K) (hp : parkK K = []) (hp' : ∀ q ∈ parkK K', q.ln ≠ 9) (ht : ∀ g, tellK K' g = tellK K g) (hrg : (3 ≤ K'.ln ∧ K'.ln ≤ 8) ↔ (3 ≤ K.ln ∧ K.ln ≤ 8)) (hu : 11 ≤ K'.ln → 11 ≤ K.ln)
    (h4 : K'.sh = true → K'.ln = 4 → (∀ z, segF z = K'.seg → rz M z = 1) ∧ ∀ q, (q ∈ parkK K' ∨ PR q) → q.ln = 9 → segF q.sl ≠ K'.seg) (hT : ∀ z, stW (M.hdr z) = 3 → Tn K M z → Tn K' M z) (ok : KG M S T mo K') : KOut N mo cR PR tR M S T K' M := by
  refine kout_ef G ?_ hsh hseg hrg hu h4 (fun z a _ b => hT z a b) ok
  rw [ho, hp]
  exact Ef.still G.stk G.sn ht hp'
/-- A step that turns a segment's state. -/
theorem kout_setD {v : Int} (G : GK N mo cR PR tR K M S T) (ho : ∀ z, (ownK K').count z = (ownK K).count z) (hp : parkK K' = parkK K) (ht : ∀ g, tellK K' g = tellK K g) (hv : v = 0 ∨ v = 1 ∨ v = 2) (he : K'.seg = K.seg)
    (h2 : v = 2 ↔ (K'.sh = true ∧ 3 ≤ K'.ln ∧ K'.ln ≤ 8)) (ho2 : ∀ g, 0 ≤ g → g < 3 → g ≠ K.seg → M.sst g ≠ 2) (hu : 11 ≤ K'.ln → v = 1) (h4 : K'.ln ≠ 4) (h0 : v = 0 → K.sh = true ∧ K.ln = 4) (hr : v = 1 → 11 ≤ K'.ln ∧ K'.slot = 8 * K.seg ∧ K'.ln = 11) (hno : ¬ 11 ≤ K.ln) (ok : KG M S T mo K' → KG (M.setD K.seg v) S T mo K') (ok' : KG M S T mo K') :
    KOut N mo cR PR tR M S T K' (M.setD K.seg v) := by
  have G' := G.setD (K' := K') hv he h2 ho2 hu h4 h0 hr hno
  refine ⟨S, T, G'.cong (fun z => by rw [ho]) (fun q => by rw [hp]) (fun g => by rw [ht]), ok ok', Int.le_refl _, by omega, fun _ _ => rfl, -1, fun z hz => ?_, Mv.refl _⟩
  have := (G.own24 (z := z) (by show 0 < (ownK K).count z + cR z; omega)).1
  omega
theorem Glob.quiet (G : Glob N mo cO P tl K M S T) (h : ¬ (K.sh = true ∧ 3 ≤ K.ln ∧ K.ln ≤ 8)) {g : Int} (h0 : 0 ≤ g) (h1 : g < 3) : M.sst g ≠ 2 := fun e => by
  obtain ⟨a, _, b⟩ := (G.dr g h0 h1).1 e
  exact h ⟨a, b⟩
theorem Glob.only (G : Glob N mo cO P tl K M S T) {g : Int} (h0 : 0 ≤ g) (h1 : g < 3) (hg : g ≠ K.seg) : M.sst g ≠ 2 := fun e => hg ((G.dr g h0 h1).1 e).2.1.symm
/-- A Grow's own lines. -/
theorem grow_out (G : GK N mo cR PR tR K M S T) (ok : KG M S T mo K) (hsh : K.sh = false) (hl : K.ln = 1 ∨ K.ln = 2) : KOut N mo cR PR tR M S T (growF K M).1 (growF K M).2 := by
  obtain ⟨sh, ln, seg, looks, slot, w, psh, pk, kept⟩ := K
  obtain ⟨hsg, hkz, hk⟩ := ok
  simp only at hsh hl hsg hkz hk
  subst hsh
  have hkept : kept = [] := by
    rcases hk with ⟨h, _⟩ | ⟨h, _⟩ | ⟨h, _⟩
    · exact h
    · cases h
    · exact h
  subst hkept
  rcases hl with rfl | rfl
  · by_cases hc : M.sst seg = 0
    · have e : growF ⟨false, 1, seg, looks, slot, w, psh, pk, []⟩ M = (⟨false, 2, seg, looks, slot, w, psh, pk, []⟩, M) := by simp [growF, hc]
      rw [e]
      exact kout_still G rfl rfl (by simp [ownK]) (by simp [parkK]) (by simp [parkK]) (fun g => by simp [tellK]) (by simp) (by simp) (by simp) (fun z _ h => absurd h.1 (by simp)) ⟨hsg, by simp, .inl ⟨rfl, .inr (.inr rfl)⟩⟩
    · have e : growF ⟨false, 1, seg, looks, slot, w, psh, pk, []⟩ M = (⟨false, 0, seg, looks, slot, w, psh, pk, []⟩, M) := by simp [growF, hc]
      rw [e]
      exact kout_still G rfl rfl (by simp [ownK]) (by simp [parkK]) (by simp [parkK]) (fun g => by simp [tellK]) (by simp) (by simp) (by simp) (fun z _ h => absurd h.1 (by simp)) ⟨hsg, by simp, .inl ⟨rfl, .inl rfl⟩⟩
  · by_cases hc : M.sst seg = 0
    · have e : growF ⟨false, 2, seg, looks, slot, w, psh, pk, []⟩ M = (⟨false, 11, seg, looks, 8 * seg, w, psh, pk, []⟩, M.setD seg 1) := by simp [growF, hc, KO.turn]
      rw [e]
      exact kout_setD G (fun z => by simp [ownK]) (by simp [parkK]) (fun g => by simp [tellK]) (.inr (.inl rfl)) rfl (by simp) (fun g a b h => G.only a b h) (fun _ => rfl) (by simp) (by simp) (fun _ => ⟨by simp, rfl, rfl⟩) (by simp) (fun h => h) ⟨hsg, by simp, .inr (.inr ⟨rfl, by simp only; omega, .inl rfl⟩)⟩
    · have e : growF ⟨false, 2, seg, looks, slot, w, psh, pk, []⟩ M = (⟨false, 0, seg, looks, slot, w, psh, pk, []⟩, M) := by simp [growF, hc]
      rw [e]
      exact kout_still G rfl rfl (by simp [ownK]) (by simp [parkK]) (by simp [parkK]) (fun g => by simp [tellK]) (by simp) (by simp) (by simp) (fun z _ h => absurd h.1 (by simp)) ⟨hsg, by simp, .inl ⟨rfl, .inl rfl⟩⟩
theorem nR_8 {g : Int} (h : nR M g = 8) {z : Int} (hz : segF z = g) : rz M z = 1 := by
  have a0 := rz_le M (8 * g)
  have a1 := rz_le M (8 * g + 1)
  have a2 := rz_le M (8 * g + 2)
  have a3 := rz_le M (8 * g + 3)
  have a4 := rz_le M (8 * g + 4)
  have a5 := rz_le M (8 * g + 5)
  have a6 := rz_le M (8 * g + 6)
  have a7 := rz_le M (8 * g + 7)
  unfold nR at h
  unfold segF at hz
  obtain e | e | e | e | e | e | e | e : z = 8 * g ∨ z = 8 * g + 1 ∨ z = 8 * g + 2 ∨ z = 8 * g + 3 ∨ z = 8 * g + 4 ∨ z = 8 * g + 5 ∨ z = 8 * g + 6 ∨ z = 8 * g + 7 := by omega
  all_goals rw [e]; omega
theorem nR_le (M : MA) (g : Int) : nR M g ≤ 8 := by
  have a0 := rz_le M (8 * g)
  have a1 := rz_le M (8 * g + 1)
  have a2 := rz_le M (8 * g + 2)
  have a3 := rz_le M (8 * g + 3)
  have a4 := rz_le M (8 * g + 4)
  have a5 := rz_le M (8 * g + 5)
  have a6 := rz_le M (8 * g + 6)
  have a7 := rz_le M (8 * g + 7)
  unfold nR
  omega
/-- The keeper's turning of slots. -/
theorem turn_out (G : GK N mo cR PR tR K M S T) (ok : KG M S T mo K) (hmo : mo < 4294967296) (hT : T + 1 < 1000000) (hl : 11 ≤ K.ln) : KOut N mo cR PR tR M S T (turnF K M).1 (turnF K M).2 := by
  obtain ⟨sh, ln, seg, looks, slot, w, psh, pk, kept⟩ := K
  obtain ⟨hsg, hkz, hk⟩ := ok
  simp only at hl hsg hkz hk
  obtain ⟨rfl, hin, hk⟩ : kept = [] ∧ (8 * seg ≤ slot ∧ slot < 8 * seg + 8) ∧ (ln = 11 ∨ (ln = 12 ∧ w = headerW 3 (gW w) ∧ 0 ≤ gW w ∧ gW w ≤ mo) ∨ ((ln = 13 ∨ ln = 14) ∧ stW (M.hdr slot) = 0) ∨ (ln = 15 ∧ stW (M.hdr slot) = 0 ∧ psh.to = slot ∧ OpOk 24 M.ms S T (.push psh))) := by
    rcases hk with ⟨_, h⟩ | ⟨_, h⟩ | h
    · omega
    · rcases h with ⟨_, h⟩ | ⟨h, _⟩ | ⟨h, _⟩ | ⟨h, _⟩ <;> omega
    · exact h
  have hsf : segF slot = seg := by unfold segF; omega
  have h24 : 0 ≤ slot ∧ slot < 24 := by omega
  -- the next slot
  have nx : ∀ (l' w' : Int) (psh' : OS) (M' : MA) (S' : List Int) (T' : Int), (∀ z, 8 * seg ≤ z → z < 8 * seg + 8 → stW (M.hdr z) = 3 → Tn ⟨sh, ln, seg, looks, slot, w, psh, pk, []⟩ M z → slot < z) → Ef mo M S T (ownK ⟨sh, ln, seg, looks, slot, w, psh, pk, []⟩) (parkK ⟨sh, ln, seg, looks, slot, w, psh, pk, []⟩) (tellK ⟨sh, ln, seg, looks, slot, w, psh, pk, []⟩) M' S' T' [] [] (fun _ => 0) →
      KOut N mo cR PR tR M S T (KO.next ⟨sh, l', seg, looks, slot, w', psh', pk, []⟩) M' := by
    intro l' w' psh' M' S' T' hgo E
    unfold KO.next
    by_cases he : slot + 1 = 8 * seg + 8
    · rw [if_pos he]
      have x0 : Ef mo M S T (ownK ⟨sh, ln, seg, looks, slot, w, psh, pk, []⟩) (parkK ⟨sh, ln, seg, looks, slot, w, psh, pk, []⟩) (tellK ⟨sh, ln, seg, looks, slot, w, psh, pk, []⟩) M' S' T' (ownK ⟨sh, 0, seg, looks, slot + 1, w', psh', pk, []⟩) (parkK ⟨sh, 0, seg, looks, slot + 1, w', psh', pk, []⟩) (tellK ⟨sh, 0, seg, looks, slot + 1, w', psh', pk, []⟩) := by
        have a1 : ownK ⟨sh, 0, seg, looks, slot + 1, w', psh', pk, []⟩ = [] := by simp [ownK]
        have a2 : parkK ⟨sh, 0, seg, looks, slot + 1, w', psh', pk, []⟩ = [] := by simp [parkK]
        have a3 : tellK ⟨sh, 0, seg, looks, slot + 1, w', psh', pk, []⟩ = fun _ => 0 := by funext g; simp [tellK]
        rw [a1, a2, a3]; exact E
      refine kout_ef G (K' := ⟨sh, 0, seg, looks, slot + 1, w', psh', pk, []⟩) (x0) rfl rfl (by simp only; omega) (by simp) (by simp) (fun z a _ h => ?_) ⟨hsg, by simp, .inl ⟨rfl, .inl rfl⟩⟩
      have hz : segF z = seg := h.2.1.symm
      have := hgo z (by unfold segF at hz; omega) (by unfold segF at hz; omega) a h
      unfold segF at hz
      omega
    · rw [if_neg he]
      have x11 : Ef mo M S T (ownK ⟨sh, ln, seg, looks, slot, w, psh, pk, []⟩) (parkK ⟨sh, ln, seg, looks, slot, w, psh, pk, []⟩) (tellK ⟨sh, ln, seg, looks, slot, w, psh, pk, []⟩) M' S' T' (ownK ⟨sh, 11, seg, looks, slot + 1, w', psh', pk, []⟩) (parkK ⟨sh, 11, seg, looks, slot + 1, w', psh', pk, []⟩) (tellK ⟨sh, 11, seg, looks, slot + 1, w', psh', pk, []⟩) := by
        have a1 : ownK ⟨sh, 11, seg, looks, slot + 1, w', psh', pk, []⟩ = [] := by simp [ownK]
        have a2 : parkK ⟨sh, 11, seg, looks, slot + 1, w', psh', pk, []⟩ = [] := by simp [parkK]
        have a3 : tellK ⟨sh, 11, seg, looks, slot + 1, w', psh', pk, []⟩ = fun _ => 0 := by funext g; simp [tellK]
        rw [a1, a2, a3]; exact E
      refine kout_ef G (K' := ⟨sh, 11, seg, looks, slot + 1, w', psh', pk, []⟩) (x11) rfl rfl (by simp only; omega) (fun _ => hl) (by simp) (fun z a _ h => ?_) ⟨hsg, by simp, .inr (.inr ⟨rfl, by simp only; omega, .inl rfl⟩)⟩
      have hz : segF z = seg := h.2.1.symm
      have := hgo z (by unfold segF at hz; omega) (by unfold segF at hz; omega) a h
      refine ⟨by simp, h.2.1, ?_⟩
      show slot + 1 < z ∨ (slot + 1 = z ∧ ((11 : Int) = 11 ∨ _))
      by_cases e : slot + 1 = z
      · exact .inr ⟨e, .inl rfl⟩
      · exact .inl (by omega)
  rcases hk with rfl | ⟨rfl, hw, g0, g1⟩ | ⟨rfl | rfl, hh⟩ | ⟨rfl, hh, hto, ho⟩
  · by_cases hc : stW (M.hdr slot) = 3
    · have e : turnF ⟨sh, 11, seg, looks, slot, w, psh, pk, []⟩ M = (⟨sh, 12, seg, looks, slot, M.hdr slot, psh, pk, []⟩, M) := by simp [turnF, hc]
      rw [e]
      obtain ⟨g, eh, k0, k1, eg⟩ := hdr_of G.frm hmo h24 hc
      refine kout_still G rfl rfl (by simp [ownK]) (by simp [parkK]) (by simp [parkK]) (fun g => by simp [tellK]) (by simp) (by simp) (by simp) (fun z _ h => ⟨by simp, h.2.1, ?_⟩) ⟨hsg, by simp, .inr (.inr ⟨rfl, hin, .inr (.inl ⟨rfl, by simp only; rw [eg]; exact eh, by simp only; omega, by simp only; omega⟩)⟩)⟩
      rcases h.2.2 with h | ⟨h, _⟩
      · exact .inl h
      · have h : slot = z := h
        subst h
        exact .inr ⟨rfl, .inr ⟨rfl, rfl⟩⟩
    · have e : turnF ⟨sh, 11, seg, looks, slot, w, psh, pk, []⟩ M = (KO.next ⟨sh, 11, seg, looks, slot, M.hdr slot, psh, pk, []⟩, M) := by simp [turnF, hc]
      rw [e]
      refine nx 11 (M.hdr slot) psh M S T (fun z _ _ a h => ?_) (by simpa [ownK, parkK] using (Ef.still (mo := mo) (own := []) (pk' := []) G.stk G.sn (fun g => by simp [tellK]) (by simp) : Ef mo M S T [] [] (tellK ⟨sh, 11, seg, looks, slot, w, psh, pk, []⟩) M S T [] [] (fun _ => 0)))
      rcases h.2.2 with h | ⟨h, _⟩
      · exact h
      · have h : slot = z := h
        subst h
        exact absurd a hc
  · by_cases hc : M.hdr slot = w
    · have e : turnF ⟨sh, 12, seg, looks, slot, w, psh, pk, []⟩ M = (⟨sh, 13, seg, looks, slot, w, psh, pk, []⟩, M.setH slot (headerW 0 (gW w))) := by simp [turnF, hc]
      rw [e]
      have y3 : stW (M.hdr slot) = 3 := stW_hdr' (hc.trans hw) (by decide) (by decide) g0 (by omega)
      have z0 : rz M slot = 1 := by rw [rz_of y3]; simp
      have G' := Glob.turn (K := ⟨sh, 12, seg, looks, slot, w, psh, pk, []⟩) G hin rfl hc hw g0 g1 hmo (cO' := fun z => (ownK ⟨sh, 13, seg, looks, slot, w, psh, pk, []⟩).count z + cR z) (tl' := fun g => tellK ⟨sh, 13, seg, looks, slot, w, psh, pk, []⟩ g + tR g) (fun z => by
        have b1 : (ownK ⟨sh, 13, seg, looks, slot, w, psh, pk, []⟩).count z = if z = slot then 1 else 0 := by
          by_cases h : z = slot
          · subst h; simp [ownK]
          · simp [ownK, h, Ne.symm h]
        have b2 : (ownK ⟨sh, 12, seg, looks, slot, w, psh, pk, []⟩).count z = 0 := by simp [ownK]
        dsimp only
        rw [b1, b2]
        omega) (fun g => by simp [tellK]; omega) rfl
      have hne : ∀ z, 0 < cR z → z ≠ slot := fun z hz e => by
        have := (G.own24 (z := z) (by show 0 < (ownK _).count z + cR z; omega)).2.2
        rw [e] at this
        omega
      refine ⟨S, T, G'.cong (fun _ => rfl) (fun q => by simp [parkK]) (fun _ => rfl), ⟨hsg, by simp, .inr (.inr ⟨rfl, hin, .inr (.inr (.inl ⟨.inl rfl, stW_hdr' (setH_at _ _) (by decide) (by decide) g0 (by omega)⟩))⟩)⟩, Int.le_refl _, by omega, fun z hz => setH_ne (hne z hz), -1, fun z hz => ?_, Mv.refl _⟩
      have := (G.own24 (z := z) (by show 0 < (ownK _).count z + cR z; omega)).1
      omega
    · have e : turnF ⟨sh, 12, seg, looks, slot, w, psh, pk, []⟩ M = (KO.next ⟨sh, 12, seg, looks, slot, w, psh, pk, []⟩, M) := by simp [turnF, hc]
      rw [e]
      refine nx 12 w psh M S T (fun z _ _ a h => ?_) (by simpa [ownK, parkK] using (Ef.still (mo := mo) (own := []) (pk' := []) G.stk G.sn (fun g => by simp [tellK]) (by simp) : Ef mo M S T [] [] (tellK ⟨sh, 12, seg, looks, slot, w, psh, pk, []⟩) M S T [] [] (fun _ => 0)))
      rcases h.2.2 with h | ⟨h1, h2 | ⟨_, h2⟩⟩
      · exact h
      · exact absurd h2 (by simp)
      · have h1 : slot = z := h1
        subst h1
        exact absurd h2.symm hc
  · have e : turnF ⟨sh, 13, seg, looks, slot, w, psh, pk, []⟩ M = (⟨sh, 14, seg, looks, slot, M.spk seg, psh, pk, []⟩, M) := by simp [turnF]
    rw [e]
    refine kout_still G rfl rfl (by simp [ownK]) (by simp [parkK]) (by simp [parkK]) (fun g => by simp [tellK]) (by simp) (by simp) (by simp) (fun z _ h => ⟨by simp, h.2.1, ?_⟩) ⟨hsg, by simp, .inr (.inr ⟨rfl, hin, .inr (.inr (.inl ⟨.inr rfl, hh⟩))⟩)⟩
    rcases h.2.2 with h | ⟨_, h | ⟨h, _⟩⟩
    · exact .inl h
    · exact absurd h (by simp)
    · exact absurd h (by simp)
  · by_cases hc : M.spk seg = w
    · have e : turnF ⟨sh, 14, seg, looks, slot, w, psh, pk, []⟩ M = (⟨sh, 15, seg, looks, slot, w, ⟨1, 0, slot⟩, pk, []⟩, M.setP seg (down64 w)) := by simp [turnF, hc]
      rw [e]
      refine kout_ef G (S' := S) (T' := T) ?_ rfl rfl (by simp) (by simp) (by simp) (fun z _ _ h => ⟨by simp, h.2.1, ?_⟩) ⟨hsg, by simp, .inr (.inr ⟨rfl, hin, .inr (.inr (.inr ⟨rfl, hh, rfl, u64_0, h24, .inl rfl⟩))⟩)⟩
      · have a1 : ownK ⟨sh, 15, seg, looks, slot, w, ⟨1, 0, slot⟩, pk, []⟩ = ownK ⟨sh, 14, seg, looks, slot, w, psh, pk, []⟩ := by simp [ownK]
        have a2 : parkK ⟨sh, 14, seg, looks, slot, w, psh, pk, []⟩ = [] := by simp [parkK]
        have a3 : parkK ⟨sh, 15, seg, looks, slot, w, ⟨1, 0, slot⟩, pk, []⟩ = [] := by simp [parkK]
        rw [a1, a2, a3]
        refine Ef.plain G.stk rfl rfl rfl G.sn (fun g => ?_) (fun g h => ?_) (by simp) (fun z _ _ q hq => by simp at hq)
        · by_cases h : seg = g
          · subst h
            have := down_mod (n := w)
            simp only [tellK, MA.setP, if_true, hc]
            simp
            omega
          · simp [tellK, MA.setP, h, Ne.symm h]
        · by_cases hg : g = seg
          · subst hg; simp only [MA.setP, if_true, down64]; omega
          · simp only [MA.setP, if_neg hg]; exact h
      · rcases h.2.2 with h | ⟨_, h | ⟨h, _⟩⟩
        · exact .inl h
        · exact absurd h (by simp)
        · exact absurd h (by simp)
    · have e : turnF ⟨sh, 14, seg, looks, slot, w, psh, pk, []⟩ M = (⟨sh, 13, seg, looks, slot, w, psh, pk, []⟩, M) := by simp [turnF, hc]
      rw [e]
      refine kout_still G rfl rfl (by simp [ownK]) (by simp [parkK]) (by simp [parkK]) (fun g => by simp [tellK]) (by simp) (by simp) (by simp) (fun z _ h => ⟨by simp, h.2.1, ?_⟩) ⟨hsg, by simp, .inr (.inr ⟨rfl, hin, .inr (.inr (.inl ⟨.inl rfl, hh⟩))⟩)⟩
      rcases h.2.2 with h | ⟨_, h | ⟨h, _⟩⟩
      · exact .inl h
      · exact absurd h (by simp)
      · exact absurd h (by simp)
  · have hS : slot ∉ S := (G.own24 (z := slot) (by simp [ownK]; omega)).2.1
    obtain ⟨S', T', h1, h2, h3, h4, h5, h6⟩ := pushA_step G.stk (n := 24) (by decide) hT (o := psh) (by rw [hto]; exact hS) ho
    rw [hto] at h5 h4 h6
    have own : ownK ⟨sh, 15, seg, looks, slot, w, psh, pk, []⟩ = [slot] := by simp [ownK]
    have hTz : ∀ z, stW (M.hdr z) = 3 → Tn ⟨sh, 15, seg, looks, slot, w, psh, pk, []⟩ M z → slot < z := fun z a h => by
      rcases h.2.2 with h | ⟨_, h | ⟨h, _⟩⟩
      · exact h
      · exact absurd h (by simp)
      · exact absurd h (by simp)
    rcases h6 with ⟨k1, k2, k3, k4⟩ | ⟨k1, k2, k3⟩
    · have e : turnF ⟨sh, 15, seg, looks, slot, w, psh, pk, []⟩ M = (⟨sh, 15, seg, looks, slot, w, (pushF psh M.ms).1, pk, []⟩, { M with ms := (pushF psh M.ms).2 }) := by simp [turnF, k1]
      rw [e]
      refine kout_ef G (S' := S') (T' := T') ?_ rfl rfl (by simp) (by simp) (by simp) (fun z a _ h => ⟨by simp, h.2.1, .inl (hTz z a h)⟩) ⟨hsg, by simp, .inr (.inr ⟨rfl, hin, .inr (.inr (.inr ⟨rfl, hh, h4, k3⟩))⟩)⟩
      have a1 : ownK ⟨sh, 15, seg, looks, slot, w, (pushF psh M.ms).1, pk, []⟩ = [slot] := by simp [ownK]
      have a2 : parkK ⟨sh, 15, seg, looks, slot, w, psh, pk, []⟩ = [] := by simp [parkK]
      have a3 : parkK ⟨sh, 15, seg, looks, slot, w, (pushF psh M.ms).1, pk, []⟩ = [] := by simp [parkK]
      rw [own, a1, a2, a3]
      exact Ef.list h1 h2 h3 ⟨slot, .inl (by simp), h5⟩ (fun z => by rw [k2]) (fun z hz => G.sn z (k2 ▸ hz)) (fun g => by simp [tellK])
    · have e : turnF ⟨sh, 15, seg, looks, slot, w, psh, pk, []⟩ M = (KO.next ⟨sh, 15, seg, looks, slot, w, (pushF psh M.ms).1, pk, []⟩, { M with ms := (pushF psh M.ms).2 }) := by simp [turnF, k1]
      rw [e]
      refine nx 15 w (pushF psh M.ms).1 _ S' T' (fun z _ _ a h => hTz z a h) ?_
      have a2 : parkK ⟨sh, 15, seg, looks, slot, w, psh, pk, []⟩ = [] := by simp [parkK]
      rw [own, a2]
      refine Ef.list h1 h2 h3 ⟨slot, .inl (by simp), h5⟩ (fun z => ?_) (fun z hz => ?_) (fun g => by simp [tellK])
      · rw [k2]; simp [List.count_cons]
      · rw [k2] at hz
        rcases List.mem_cons.1 hz with rfl | hz
        · exact hh
        · exact G.sn z hz
end
end Go.Proofs.YtmjcbjcnmgleaaaGreatDoor
namespace Go.Proofs.YtmjcbjcnmgleaaaGreatDoor
open Go.RowKit Go.Maps

section
variable {S S' : List Int} {T T' : Int} {M M' : MA} {N mo : Int} {tR : Int → Int} {cR : Int → Nat} {PR : PO → Prop} {K K' : KO}
theorem last_of {l : List Int} (h : l ≠ []) : l.getLastD 0 ∈ l ∧ ∀ z, l.count z = l.dropLast.count z + if z = l.getLastD 0 then 1 else 0 := by
  obtain ⟨l', b, rfl⟩ : ∃ l' b, l = l' ++ [b] := ⟨l.dropLast, l.getLast h, (List.dropLast_concat_getLast h).symm⟩
  have e : (l' ++ [b]).getLastD 0 = b := by simp
  rw [e]
  refine ⟨by simp, fun z => ?_⟩
  rw [List.dropLast_concat, List.count_append]
  by_cases hz : z = b
  · subst hz; simp
  · simp [hz, Ne.symm hz]
theorem kept_hd (G : GK N mo cR PR tR K M S T) {z : Int} (hz : z ∈ K.kept) : (0 ≤ z ∧ z < 24) ∧ z ∉ S := by
  have := G.own24 (z := z) (by
    show 0 < (ownK K).count z + cR z
    have : z ∈ ownK K := by unfold ownK; simp [hz]
    have := List.count_pos_iff.2 this
    omega)
  exact ⟨this.1, this.2.1⟩
/-- From a list of kept ones to its end. -/
theorem seven_out (G : GK N mo cR PR tR K M S T) (hs : K.sh = true) (hsg : 0 ≤ K.seg ∧ K.seg < 3) (h3 : 3 ≤ K.ln ∧ K.ln ≤ 8) (hk' : ∀ z ∈ K'.kept, stW (M'.hdr z) = 0 ∧ 0 ≤ z ∧ z < 24) (E : Ef mo M S T (ownK K) (parkK K) (tellK K) M' S' T' K'.kept [] (fun _ => 0)) (hsh : K'.sh = K.sh) (hseg : K'.seg = K.seg) : KOut N mo cR PR tR M S T K'.seven M' := by
  obtain ⟨sh, ln, seg, looks, slot, w, psh, pk, kept⟩ := K'
  simp only at hk' E hsh hseg
  subst hsh hseg
  unfold KO.seven
  by_cases h : kept = []
  · subst h
    rw [if_pos rfl]
    refine kout_ef G (S' := S') (T' := T') (K' := ⟨K.sh, 3, K.seg, looks, slot, w, psh, pk, []⟩) ?_ rfl rfl (by simp only; omega) (by simp) (by simp) (fun z _ _ h => absurd h.1 (by omega)) ⟨hsg, by simp, .inr (.inl ⟨hs, .inl ⟨rfl, .inl rfl⟩⟩)⟩
    have a1 : ownK ⟨K.sh, 3, K.seg, looks, slot, w, psh, pk, []⟩ = [] := by simp [ownK]
    have a2 : parkK ⟨K.sh, 3, K.seg, looks, slot, w, psh, pk, []⟩ = [] := by simp [parkK]
    have a3 : tellK ⟨K.sh, 3, K.seg, looks, slot, w, psh, pk, []⟩ = fun _ => 0 := by funext g; simp [tellK]
    rw [a1, a2, a3]
    exact E
  · rw [if_neg h]
    refine kout_ef G (S' := S') (T' := T') (K' := ⟨K.sh, 7, K.seg, looks, slot, w, ⟨1, 0, kept.getLastD 0⟩, pk, kept⟩) ?_ rfl rfl (by simp only; omega) (by simp) (by simp) (fun z _ _ h => absurd h.1 (by omega)) ⟨hsg, fun z hz => (hk' z hz).1, .inr (.inl ⟨hs, .inr (.inr (.inr ⟨rfl, h, rfl, u64_0, (hk' _ (last_of h).1).2, .inl rfl⟩))⟩)⟩
    have a1 : ownK ⟨K.sh, 7, K.seg, looks, slot, w, ⟨1, 0, kept.getLastD 0⟩, pk, kept⟩ = kept := by simp [ownK]
    have a2 : parkK ⟨K.sh, 7, K.seg, looks, slot, w, ⟨1, 0, kept.getLastD 0⟩, pk, kept⟩ = [] := by simp [parkK]
    have a3 : tellK ⟨K.sh, 7, K.seg, looks, slot, w, ⟨1, 0, kept.getLastD 0⟩, pk, kept⟩ = fun _ => 0 := by funext g; simp [tellK]
    rw [a1, a2, a3]
    exact E
/-- A Shrink's lines 1 to 4, and 8. -/
theorem shrink_a (G : GK N mo cR PR tR K M S T) (ok : KG M S T mo K) (hsh : K.sh = true) (hR : ∀ g, 0 ≤ g → g < 3 → -50 ≤ tR g ∧ tR g ≤ 0) (h9 : ∀ q, PR q → q.ln = 9 → 0 ≤ segF q.sl → segF q.sl < 3 → tR (segF q.sl) ≤ -1) (hl : K.ln = 1 ∨ K.ln = 2 ∨ K.ln = 3 ∨ K.ln = 4 ∨ K.ln = 8) : KOut N mo cR PR tR M S T (shrinkF K M).1 (shrinkF K M).2 := by
  obtain ⟨sh, ln, seg, looks, slot, w, psh, pk, kept⟩ := K
  obtain ⟨hsg, hkz, hk⟩ := ok
  simp only at hsh hl hsg hkz hk
  subst hsh
  have hkept : kept = [] := by
    rcases hk with ⟨h, _⟩ | ⟨_, ⟨h, _⟩ | ⟨h, _⟩ | ⟨h, _⟩ | ⟨h, _⟩⟩ | ⟨h, _⟩
    · exact h
    · exact h
    · omega
    · omega
    · omega
    · exact h
  subst hkept
  rcases hl with rfl | rfl | rfl | rfl | rfl
  · by_cases hc : M.sst seg = 1
    · have e : shrinkF ⟨true, 1, seg, looks, slot, w, psh, pk, []⟩ M = (⟨true, 2, seg, looks, slot, w, psh, pk, []⟩, M) := by simp [shrinkF, hc]
      rw [e]
      exact kout_still G rfl rfl (by simp [ownK]) (by simp [parkK]) (by simp [parkK]) (fun g => by simp [tellK]) (by simp) (by simp) (by simp) (fun z _ h => absurd h.1 (by simp)) ⟨hsg, by simp, .inl ⟨rfl, .inr (.inr rfl)⟩⟩
    · have e : shrinkF ⟨true, 1, seg, looks, slot, w, psh, pk, []⟩ M = (⟨true, 0, seg, looks, slot, w, psh, pk, []⟩, M) := by simp [shrinkF, hc]
      rw [e]
      exact kout_still G rfl rfl (by simp [ownK]) (by simp [parkK]) (by simp [parkK]) (fun g => by simp [tellK]) (by simp) (by simp) (by simp) (fun z _ h => absurd h.1 (by simp)) ⟨hsg, by simp, .inl ⟨rfl, .inl rfl⟩⟩
  · by_cases hc : M.sst seg = 1
    · have e : shrinkF ⟨true, 2, seg, looks, slot, w, psh, pk, []⟩ M = (⟨true, 3, seg, looks, slot, w, psh, pk, []⟩, M.setD seg 2) := by simp [shrinkF, hc]
      rw [e]
      exact kout_setD G (fun z => by simp [ownK]) (by simp [parkK]) (fun g => by simp [tellK]) (.inr (.inr rfl)) rfl (by simp) (fun g a b h => G.only a b h) (by simp) (by simp) (by simp) (by simp) (by simp) (fun h => h) ⟨hsg, by simp, .inr (.inl ⟨rfl, .inl ⟨rfl, .inl rfl⟩⟩)⟩
    · have e : shrinkF ⟨true, 2, seg, looks, slot, w, psh, pk, []⟩ M = (⟨true, 0, seg, looks, slot, w, psh, pk, []⟩, M) := by simp [shrinkF, hc]
      rw [e]
      exact kout_still G rfl rfl (by simp [ownK]) (by simp [parkK]) (by simp [parkK]) (fun g => by simp [tellK]) (by simp) (by simp) (by simp) (fun z _ h => absurd h.1 (by simp)) ⟨hsg, by simp, .inl ⟨rfl, .inl rfl⟩⟩
  · by_cases hc : M.spk seg = 8
    · have e : shrinkF ⟨true, 3, seg, looks, slot, w, psh, pk, []⟩ M = (⟨true, 4, seg, looks, slot, w, psh, pk, []⟩, M) := by simp [shrinkF, hc]
      rw [e]
      have hs := G.sum seg hsg.1 hsg.2
      have h0 : tellK ⟨true, 3, seg, looks, slot, w, psh, pk, []⟩ seg = 0 := by simp [tellK]
      have hr := hR seg hsg.1 hsg.2
      have hn := nR_le M seg
      rw [h0, hc] at hs
      have h8 : nR M seg = 8 ∧ tR seg = 0 := by omega
      exact kout_still G rfl rfl (by simp [ownK]) (by simp [parkK]) (by simp [parkK]) (fun g => by simp [tellK]) (by simp) (by simp) (fun _ _ => ⟨fun z hz => nR_8 h8.1 hz, fun q hq h e => by
        rcases hq with hq | hq
        · simp [parkK] at hq
        · have e : segF q.sl = seg := e
          have := h9 q hq h (by omega) (by omega)
          rw [e] at this
          omega⟩) (fun z _ h => absurd h.1 (by simp)) ⟨hsg, by simp, .inr (.inl ⟨rfl, .inl ⟨rfl, .inr (.inl rfl)⟩⟩)⟩
    · by_cases h0 : looks ≤ 0
      · have e : shrinkF ⟨true, 3, seg, looks, slot, w, psh, pk, []⟩ M = (⟨true, 8, seg, looks, slot, w, psh, pk, []⟩, M) := by simp [shrinkF, hc, h0]
        rw [e]
        exact kout_still G rfl rfl (by simp [ownK]) (by simp [parkK]) (by simp [parkK]) (fun g => by simp [tellK]) (by simp) (by simp) (by simp) (fun z _ h => absurd h.1 (by simp)) ⟨hsg, by simp, .inr (.inl ⟨rfl, .inl ⟨rfl, .inr (.inr rfl)⟩⟩)⟩
      · have e : shrinkF ⟨true, 3, seg, looks, slot, w, psh, pk, []⟩ M = (⟨true, 5, seg, looks - 1, slot, w, ⟨1, 0, 0⟩, pk, []⟩, M) := by simp [shrinkF, hc, h0]
        rw [e]
        exact kout_still G rfl rfl (by simp [ownK]) (by simp [parkK]) (by simp [parkK]) (fun g => by simp [tellK]) (by simp) (by simp) (by simp) (fun z _ h => absurd h.1 (by simp)) ⟨hsg, by simp, .inr (.inl ⟨rfl, .inr (.inl ⟨rfl, u64_0, .inl rfl⟩)⟩)⟩
  · have hc : M.sst seg = 2 := (G.dr seg hsg.1 hsg.2).2 ⟨rfl, rfl, by simp, by simp⟩
    have e : shrinkF ⟨true, 4, seg, looks, slot, w, psh, pk, []⟩ M = (⟨true, 0, seg, looks, slot, w, psh, pk, []⟩, M.setD seg 0) := by simp [shrinkF, hc]
    rw [e]
    exact kout_setD G (fun z => by simp [ownK]) (by simp [parkK]) (fun g => by simp [tellK]) (.inl rfl) rfl (by simp) (fun g a b h => G.only a b h) (by simp) (by simp) (fun _ => ⟨rfl, rfl⟩) (by simp) (by simp) (fun h => h) ⟨hsg, by simp, .inl ⟨rfl, .inl rfl⟩⟩
  · have hc : M.sst seg = 2 := (G.dr seg hsg.1 hsg.2).2 ⟨rfl, rfl, by simp, by simp⟩
    have e : shrinkF ⟨true, 8, seg, looks, slot, w, psh, pk, []⟩ M = (⟨true, 11, seg, looks, 8 * seg, w, psh, pk, []⟩, M.setD seg 1) := by simp [shrinkF, hc, KO.turn]
    rw [e]
    exact kout_setD G (fun z => by simp [ownK]) (by simp [parkK]) (fun g => by simp [tellK]) (.inr (.inl rfl)) rfl (by simp) (fun g a b h => G.only a b h) (fun _ => rfl) (by simp) (by simp) (fun _ => ⟨by simp, rfl, rfl⟩) (by simp) (fun h => h) ⟨hsg, by simp, .inr (.inr ⟨rfl, by simp only; omega, .inl rfl⟩)⟩
/-- A Shrink's lines 5 to 7. -/
theorem shrink_b (G : GK N mo cR PR tR K M S T) (ok : KG M S T mo K) (hmo : mo < 4294967296) (hT : T + 1 < 1000000) (hsh : K.sh = true) (hl : K.ln = 5 ∨ K.ln = 6 ∨ K.ln = 7) : KOut N mo cR PR tR M S T (shrinkF K M).1 (shrinkF K M).2 := by
  have hkh : ∀ z ∈ K.kept, (0 ≤ z ∧ z < 24) ∧ z ∉ S := fun z hz => kept_hd G hz
  obtain ⟨sh, ln, seg, looks, slot, w, psh, pk, kept⟩ := K
  obtain ⟨hsg, hkz, hk⟩ := ok
  simp only at hsh hl hsg hkz hk hkh
  subst hsh
  have hk : (ln = 5 ∧ OpOk 24 M.ms S T (.pop psh)) ∨ (ln = 6 ∧ pk.ln ≠ 0 ∧ PkG M S T mo pk) ∨ (ln = 7 ∧ kept ≠ [] ∧ psh.to = kept.getLastD 0 ∧ OpOk 24 M.ms S T (.push psh)) := by
    rcases hk with ⟨_, h⟩ | ⟨_, ⟨_, h⟩ | h | h | h⟩ | ⟨_, _, h⟩
    · omega
    · omega
    · exact .inl h
    · exact .inr (.inl h)
    · exact .inr (.inr h)
    · rcases h with h | ⟨h, _⟩ | ⟨h, _⟩ | ⟨h, _⟩ <;> omega
  rcases hk with ⟨rfl, ho⟩ | ⟨rfl, hp0, hpk⟩ | ⟨rfl, hne, hto, ho⟩
  · -- 5
    have o1 : ownK ⟨true, 5, seg, looks, slot, w, psh, pk, kept⟩ = kept := by simp [ownK]
    have p1 : parkK ⟨true, 5, seg, looks, slot, w, psh, pk, kept⟩ = [] := by simp [parkK]
    have t1 : tellK ⟨true, 5, seg, looks, slot, w, psh, pk, kept⟩ = fun _ => 0 := by funext g; simp [tellK]
    obtain ⟨S', T', h1, h2, h3, h4, h5, h6⟩ := popA_step (n := 24) G.stk hT ho (-1)
    rcases h6 with ⟨k1, k2, k3, k4⟩ | ⟨k1, k2, k3, k4⟩ | ⟨k1, k2, k3, k4⟩
    · have e : shrinkF ⟨true, 5, seg, looks, slot, w, psh, pk, kept⟩ M = (⟨true, 5, seg, looks, slot, w, (popF psh M.ms).1, pk, kept⟩, { M with ms := (popF psh M.ms).2 }) := by simp [shrinkF, k1]
      rw [e]
      refine kout_ef G (S' := S') (T' := T') ?_ rfl rfl (by simp) (by simp) (by simp) (fun z _ _ h => absurd h.1 (by simp)) ⟨hsg, hkz, .inr (.inl ⟨rfl, .inr (.inl ⟨rfl, k3⟩)⟩)⟩
      have o2 : ownK ⟨true, 5, seg, looks, slot, w, (popF psh M.ms).1, pk, kept⟩ = kept := by simp [ownK]
      have p2 : parkK ⟨true, 5, seg, looks, slot, w, (popF psh M.ms).1, pk, kept⟩ = [] := by simp [parkK]
      have t2 : tellK ⟨true, 5, seg, looks, slot, w, (popF psh M.ms).1, pk, kept⟩ = fun _ => 0 := by funext g; simp [tellK]
      rw [o1, p1, t1, o2, p2, t2]
      exact Ef.list h1 h2 h3 ⟨-1, .inr (by decide), h4⟩ (fun z => by rw [k2]) (fun z hz => G.sn z (k2 ▸ hz)) (fun _ => rfl)
    · have e : shrinkF ⟨true, 5, seg, looks, slot, w, psh, pk, kept⟩ M = (KO.seven ⟨true, 5, seg, looks, slot, w, (popF psh M.ms).1, pk, kept⟩, { M with ms := (popF psh M.ms).2 }) := by simp [shrinkF, k1, k2]
      rw [e]
      refine seven_out G (S' := S') (T' := T') rfl hsg (by simp) (fun z hz => ⟨hkz z hz, (hkh z hz).1⟩) ?_ rfl rfl
      rw [o1, p1, t1]
      exact Ef.list h1 h2 h3 ⟨-1, .inr (by decide), h4⟩ (fun z => by rw [k3]) (fun z hz => G.sn z (k3 ▸ hz)) (fun _ => rfl)
    · have hw : ¬ wSlot (popF psh M.ms).1.h < 0 := by omega
      have e : shrinkF ⟨true, 5, seg, looks, slot, w, psh, pk, kept⟩ M = (if segF (wSlot (popF psh M.ms).1.h) = seg then ⟨true, 6, seg, looks, slot, w, psh, newPark (wSlot (popF psh M.ms).1.h), kept⟩ else ⟨true, 5, seg, looks, slot, w, ⟨1, 0, 0⟩, pk, kept ++ [wSlot (popF psh M.ms).1.h]⟩, { M with ms := (popF psh M.ms).2 }) := by simp [shrinkF, k1, hw]
      rw [e]
      clear e
      generalize wSlot (popF psh M.ms).1.h = y at *
      have hy : y ∈ S := by rw [k3]; simp
      have y24 := G.s24 hy
      have y0 := G.sn y hy
      have E : Ef mo M S T kept [] (fun _ => 0) { M with ms := (popF psh M.ms).2 } S' T' ([y] ++ kept) [] (fun _ => 0) := Ef.list h1 h2 h3 ⟨-1, .inr (by decide), h4⟩ (fun z => by rw [k3]; simp only [List.count_cons, List.count_append, List.count_nil]; omega) (fun z hz => G.sn z (by rw [k3]; simp [hz])) (fun _ => rfl)
      by_cases hg : segF y = seg
      · rw [if_pos hg]
        refine kout_ef G (S' := S') (T' := T') (K' := ⟨true, 6, seg, looks, slot, w, psh, newPark y, kept⟩) ?_ rfl rfl (by simp) (by simp) (by simp) (fun z _ _ h => absurd h.1 (by simp)) ⟨hsg, hkz, .inr (.inl ⟨rfl, .inr (.inr (.inl ⟨rfl, by simp [newPark], pkG_new y24 y0⟩))⟩)⟩
        have o2 : ownK ⟨true, 6, seg, looks, slot, w, psh, newPark y, kept⟩ = [y] ++ kept := by simp [ownK, ownQ, newPark]
        have p2 : parkK ⟨true, 6, seg, looks, slot, w, psh, newPark y, kept⟩ = [newPark y] := by simp [parkK, lsQ, newPark]
        have t2 : tellK ⟨true, 6, seg, looks, slot, w, psh, newPark y, kept⟩ = fun _ => 0 := by
          funext g
          show (if (6 : Int) = 6 then tlQ (newPark y) g else _) = 0
          rw [if_pos rfl]
          exact tlQ_off (by simp [newPark]) g
        rw [o1, p1, t1, o2, p2, t2]
        exact E.more (fun q hq => by rw [List.mem_singleton] at hq; subst hq; simp [newPark])
      · rw [if_neg hg]
        refine kout_ef G (S' := S') (T' := T') (K' := ⟨true, 5, seg, looks, slot, w, ⟨1, 0, 0⟩, pk, kept ++ [y]⟩) ?_ rfl rfl (by simp) (by simp) (by simp) (fun z _ _ h => absurd h.1 (by simp)) ⟨hsg, fun z hz => ?_, .inr (.inl ⟨rfl, .inr (.inl ⟨rfl, u64_0, .inl rfl⟩)⟩)⟩
        · have o2 : ownK ⟨true, 5, seg, looks, slot, w, ⟨1, 0, 0⟩, pk, kept ++ [y]⟩ = kept ++ [y] := by simp [ownK]
          have p2 : parkK ⟨true, 5, seg, looks, slot, w, ⟨1, 0, 0⟩, pk, kept ++ [y]⟩ = [] := by simp [parkK]
          have t2 : tellK ⟨true, 5, seg, looks, slot, w, ⟨1, 0, 0⟩, pk, kept ++ [y]⟩ = fun _ => 0 := by funext g; simp [tellK]
          rw [o1, p1, t1, o2, p2, t2]
          exact ⟨E.stk, E.t0, E.t1, E.mv, fun z => by have := E.cnt z; simp only [List.count_append] at this ⊢; omega, E.hdr, E.sn, E.sst, E.sum, E.rng, E.out, E.nine, E.resp⟩
        · rcases List.mem_append.1 hz with hz | hz
          · exact hkz z hz
          · rw [List.mem_singleton] at hz
            subst hz
            exact y0
  · -- 6
    have o1 : ownK ⟨true, 6, seg, looks, slot, w, psh, pk, kept⟩ = ownQ pk ++ kept := by simp [ownK]
    have p1 : parkK ⟨true, 6, seg, looks, slot, w, psh, pk, kept⟩ = lsQ pk := by simp [parkK]
    have t1 : tellK ⟨true, 6, seg, looks, slot, w, psh, pk, kept⟩ = tlQ pk := by funext g; simp [tellK]
    have hin := hpk.1
    obtain ⟨S', T', E, e2, hpk'⟩ := park_eff G.stk hT hpk hmo G.sn G.frm (fun z hz => (G.own24 (z := z) (by
      show 0 < (ownK _).count z + cR z
      rw [o1, List.count_append]
      have := List.count_pos_iff.2 hz
      omega)).2.1) (G.rng _ (by unfold segF; omega) (by unfold segF; omega))
    have hkz' : ∀ z ∈ kept, stW ((parkF pk M).2.hdr z) = 0 := fun z hz => by
      have := (E.rest G (cR := fun z => kept.count z + cR z) (fun z => by
        show (ownK _).count z + cR z = _
        rw [o1, List.count_append]; omega) (z := z) (by have := List.count_pos_iff.2 hz; show 0 < kept.count z + cR z; omega)).1
      rw [this]
      exact hkz z hz
    have E' := E.app kept
    by_cases hz : (parkF pk M).1.ln = 0
    · have e : shrinkF ⟨true, 6, seg, looks, slot, w, psh, pk, kept⟩ M = (⟨true, 5, seg, looks, slot, w, ⟨1, 0, 0⟩, (parkF pk M).1, kept⟩, (parkF pk M).2) := by simp [shrinkF, hz]
      rw [e]
      refine kout_ef G (S' := S') (T' := T') ?_ rfl rfl (by simp) (by simp) (by simp) (fun z _ _ h => absurd h.1 (by simp)) ⟨hsg, hkz', .inr (.inl ⟨rfl, .inr (.inl ⟨rfl, u64_0, .inl rfl⟩)⟩)⟩
      have a1 : ownQ (parkF pk M).1 = [] := by simp [ownQ, hz]
      have a2 : lsQ (parkF pk M).1 = [] := by simp [lsQ, hz]
      have a3 : tlQ (parkF pk M).1 = fun _ => 0 := by funext g; exact tlQ_off (by simp [hz]) g
      have o2 : ownK ⟨true, 5, seg, looks, slot, w, ⟨1, 0, 0⟩, (parkF pk M).1, kept⟩ = kept := by simp [ownK]
      have p2 : parkK ⟨true, 5, seg, looks, slot, w, ⟨1, 0, 0⟩, (parkF pk M).1, kept⟩ = [] := by simp [parkK]
      have t2 : tellK ⟨true, 5, seg, looks, slot, w, ⟨1, 0, 0⟩, (parkF pk M).1, kept⟩ = fun _ => 0 := by funext g; simp [tellK]
      rw [a1, a2, a3, List.nil_append] at E'
      rw [o1, p1, t1, o2, p2, t2]
      exact E'
    · have e : shrinkF ⟨true, 6, seg, looks, slot, w, psh, pk, kept⟩ M = (⟨true, 6, seg, looks, slot, w, psh, (parkF pk M).1, kept⟩, (parkF pk M).2) := by simp [shrinkF, hz]
      rw [e]
      refine kout_ef G (S' := S') (T' := T') ?_ rfl rfl (by simp) (by simp) (by simp) (fun z _ _ h => absurd h.1 (by simp)) ⟨hsg, hkz', .inr (.inl ⟨rfl, .inr (.inr (.inl ⟨rfl, hz, hpk' hz⟩))⟩)⟩
      have o2 : ownK ⟨true, 6, seg, looks, slot, w, psh, (parkF pk M).1, kept⟩ = ownQ (parkF pk M).1 ++ kept := by simp [ownK]
      have p2 : parkK ⟨true, 6, seg, looks, slot, w, psh, (parkF pk M).1, kept⟩ = lsQ (parkF pk M).1 := by simp [parkK]
      have t2 : tellK ⟨true, 6, seg, looks, slot, w, psh, (parkF pk M).1, kept⟩ = tlQ (parkF pk M).1 := by funext g; simp [tellK]
      rw [o1, p1, t1, o2, p2, t2]
      exact E'
  · -- 7
    have o1 : ownK ⟨true, 7, seg, looks, slot, w, psh, pk, kept⟩ = kept := by simp [ownK]
    have p1 : parkK ⟨true, 7, seg, looks, slot, w, psh, pk, kept⟩ = [] := by simp [parkK]
    have t1 : tellK ⟨true, 7, seg, looks, slot, w, psh, pk, kept⟩ = fun _ => 0 := by funext g; simp [tellK]
    obtain ⟨hla, hlc⟩ := last_of hne
    obtain ⟨S', T', h1, h2, h3, h4, h5, h6⟩ := pushA_step G.stk (n := 24) (by decide) hT (o := psh) (by rw [hto]; exact (hkh _ hla).2) ho
    rw [hto] at h5 h4 h6
    rcases h6 with ⟨k1, k2, k3, k4⟩ | ⟨k1, k2, k3⟩
    · have e : shrinkF ⟨true, 7, seg, looks, slot, w, psh, pk, kept⟩ M = (⟨true, 7, seg, looks, slot, w, (pushF psh M.ms).1, pk, kept⟩, { M with ms := (pushF psh M.ms).2 }) := by simp [shrinkF, k1]
      rw [e]
      refine kout_ef G (S' := S') (T' := T') ?_ rfl rfl (by simp) (by simp) (by simp) (fun z _ _ h => absurd h.1 (by simp)) ⟨hsg, hkz, .inr (.inl ⟨rfl, .inr (.inr (.inr ⟨rfl, hne, h4, k3⟩))⟩)⟩
      have o2 : ownK ⟨true, 7, seg, looks, slot, w, (pushF psh M.ms).1, pk, kept⟩ = kept := by simp [ownK]
      have p2 : parkK ⟨true, 7, seg, looks, slot, w, (pushF psh M.ms).1, pk, kept⟩ = [] := by simp [parkK]
      have t2 : tellK ⟨true, 7, seg, looks, slot, w, (pushF psh M.ms).1, pk, kept⟩ = fun _ => 0 := by funext g; simp [tellK]
      rw [o1, p1, t1, o2, p2, t2]
      exact Ef.list h1 h2 h3 ⟨_, .inl hla, h5⟩ (fun z => by rw [k2]) (fun z hz => G.sn z (k2 ▸ hz)) (fun _ => rfl)
    · have e : shrinkF ⟨true, 7, seg, looks, slot, w, psh, pk, kept⟩ M = (KO.seven ⟨true, 7, seg, looks, slot, w, psh, pk, kept.dropLast⟩, { M with ms := (pushF psh M.ms).2 }) := by simp [shrinkF, k1]
      rw [e]
      have hd : ∀ z ∈ kept.dropLast, z ∈ kept := fun z hz => List.dropLast_subset _ hz
      refine seven_out G (S' := S') (T' := T') rfl hsg (by simp) (fun z hz => ⟨hkz z (hd z hz), (hkh z (hd z hz)).1⟩) ?_ rfl rfl
      rw [o1, p1, t1]
      refine Ef.list h1 h2 h3 ⟨_, .inl hla, h5⟩ (fun z => ?_) (fun z hz => ?_) (fun _ => rfl)
      · rw [k2, List.count_cons]
        have := hlc z
        generalize kept.getLastD 0 = b at this ⊢
        by_cases h : z = b
        · subst h; simp at this ⊢; omega
        · simp [h, Ne.symm h] at this ⊢; omega
      · rw [k2] at hz
        rcases List.mem_cons.1 hz with rfl | hz
        · exact hkz _ hla
        · exact G.sn z hz
/-- A step of the keeper's. -/
theorem keeper_out (G : GK N mo cR PR tR K M S T) (ok : KG M S T mo K) (hmo : mo < 4294967296) (hT : T + 1 < 1000000) (hR : ∀ g, 0 ≤ g → g < 3 → -50 ≤ tR g ∧ tR g ≤ 0) (h9 : ∀ q, PR q → q.ln = 9 → 0 ≤ segF q.sl → segF q.sl < 3 → tR (segF q.sl) ≤ -1) (h0 : K.ln ≠ 0) : KOut N mo cR PR tR M S T (kF K M).1 (kF K M).2 := by
  unfold kF
  by_cases h : 11 ≤ K.ln
  · rw [if_pos h]; exact turn_out G ok hmo hT h
  · rw [if_neg h]
    have hk := ok.2.2
    by_cases hs : K.sh = false
    · rw [if_pos hs]
      refine grow_out G ok hs ?_
      rcases hk with ⟨_, h⟩ | ⟨h, _⟩ | ⟨_, _, h⟩
      · omega
      · rw [hs] at h; cases h
      · rcases h with h | ⟨h, _⟩ | ⟨h, _⟩ | ⟨h, _⟩ <;> omega
    · rw [if_neg hs]
      have hs : K.sh = true := by simpa using hs
      have : (K.ln = 1 ∨ K.ln = 2 ∨ K.ln = 3 ∨ K.ln = 4 ∨ K.ln = 8) ∨ (K.ln = 5 ∨ K.ln = 6 ∨ K.ln = 7) := by
        rcases hk with ⟨_, h⟩ | ⟨_, ⟨_, h⟩ | ⟨h, _⟩ | ⟨h, _⟩ | ⟨h, _⟩⟩ | ⟨_, _, h⟩
        · omega
        · omega
        · omega
        · omega
        · omega
        · rcases h with h | ⟨h, _⟩ | ⟨h, _⟩ | ⟨h, _⟩ <;> omega
      rcases this with h | h
      · exact shrink_a G ok hs hR h9 h
      · exact shrink_b G ok hmo hT hs h
end
end Go.Proofs.YtmjcbjcnmgleaaaGreatDoor
