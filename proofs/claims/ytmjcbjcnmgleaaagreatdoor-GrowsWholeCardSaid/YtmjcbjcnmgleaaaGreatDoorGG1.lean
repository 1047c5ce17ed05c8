/-
  What is set aside is read off the memory: what one step of a Park makes of it, in plain words, where anybody may turn a parked slot back; no condition.
  One step of a Park, in plain words, where anybody may turn a parked slot back; no condition.
-/
import Derived.Test.YtmjcbjcnmgleaaaGreatDoorH5
namespace Go.Proofs.YtmjcbjcnmgleaaaGreatDoor
open Go.RowKit Go.Maps

/-- Is a slot parked, or gone? -/
def rz (M : MA) (z : Int) : Nat := if stW (M.hdr z) = 3 ∨ stW (M.hdr z) = 4 then 1 else 0
/-- How many of a segment's slots are. -/
def nR (M : MA) (g : Int) : Nat := rz M (8 * g) + rz M (8 * g + 1) + rz M (8 * g + 2) + rz M (8 * g + 3) + rz M (8 * g + 4) + rz M (8 * g + 5) + rz M (8 * g + 6) + rz M (8 * g + 7)
theorem rz_le (M : MA) (z : Int) : rz M z ≤ 1 := by unfold rz; split <;> omega
theorem rz_eq {M M' : MA} {z : Int} (h : M'.hdr z = M.hdr z) : rz M' z = rz M z := by unfold rz; rw [h]
theorem nR_same {M M' : MA} {g : Int} (h : ∀ y, segF y = g → M'.hdr y = M.hdr y) : nR M' g = nR M g := by
  have k : ∀ i : Int, 0 ≤ i → i < 8 → rz M' (8 * g + i) = rz M (8 * g + i) := fun i h0 h1 => rz_eq (h _ (by unfold segF; omega))
  have k0 := k 0 (by decide) (by decide)
  rw [Int.add_zero] at k0
  unfold nR
  rw [k0, k 1 (by decide) (by decide), k 2 (by decide) (by decide), k 3 (by decide) (by decide), k 4 (by decide) (by decide), k 5 (by decide) (by decide), k 6 (by decide) (by decide), k 7 (by decide) (by decide)]
theorem nR_upd {M M' : MA} {x : Int} (h : ∀ y, y ≠ x → M'.hdr y = M.hdr y) (g : Int) : (nR M' g : Int) + (if segF x = g then (rz M x : Int) else 0) = (nR M g : Int) + (if segF x = g then (rz M' x : Int) else 0) := by
  by_cases hg : segF x = g
  · rw [if_pos hg, if_pos hg]
    have k : ∀ i : Int, 8 * g + i ≠ x → rz M' (8 * g + i) = rz M (8 * g + i) := fun i hi => rz_eq (h _ hi)
    have k0 : 8 * g ≠ x → rz M' (8 * g) = rz M (8 * g) := fun hi => rz_eq (h _ hi)
    have k1 := k 1
    have k2 := k 2
    have k3 := k 3
    have k4 := k 4
    have k5 := k 5
    have k6 := k 6
    have k7 := k 7
    clear k
    unfold segF at hg
    unfold nR
    obtain e | e | e | e | e | e | e | e : x = 8 * g ∨ x = 8 * g + 1 ∨ x = 8 * g + 2 ∨ x = 8 * g + 3 ∨ x = 8 * g + 4 ∨ x = 8 * g + 5 ∨ x = 8 * g + 6 ∨ x = 8 * g + 7 := by omega
    all_goals
      (try rw [k0 (by omega)]) <;> (try rw [k1 (by omega)]) <;> (try rw [k2 (by omega)]) <;> (try rw [k3 (by omega)]) <;> (try rw [k4 (by omega)]) <;> (try rw [k5 (by omega)]) <;> (try rw [k6 (by omega)]) <;> (try rw [k7 (by omega)]) <;> rw [e] <;> push_cast <;> omega
  · rw [if_neg hg, if_neg hg, nR_same fun y hy => h y fun e => hg (e ▸ hy)]
/-- Who turns a parked slot back. -/
def Rs (q : PO) (M : MA) (z : Int) : Prop := q.sl = z ∧ 3 ≤ q.ln ∧ q.ln ≤ 9 ∧ gW q.w = gW (M.hdr z)
/-- What a Park owns; what it tells. -/
def ownQ (o : PO) : List Int := if o.ln = 1 ∨ o.ln = 2 ∨ o.ln = 10 then [o.sl] else []
def tlQ (o : PO) (g : Int) : Int := if segF o.sl = g ∧ (o.ln = 3 ∨ o.ln = 4 ∨ o.ln = 8 ∨ o.ln = 9 ∨ o.ln = 11 ∨ o.ln = 12) then -1 else 0
def lsQ (o : PO) : List PO := if o.ln = 0 then [] else [o]
/-- What a step makes: of the list, of what is owned, of what is told, of who turns what back. -/
structure Ef (mo : Int) (M : MA) (S : List Int) (T : Int) (own : List Int) (pk : List PO) (tl : Int → Int) (M' : MA) (S' : List Int) (T' : Int) (own' : List Int) (pk' : List PO) (tl' : Int → Int) : Prop where
  stk : Stk M'.ms S' T'
  t0 : T ≤ T'
  t1 : T' ≤ T + 1
  mv : ∃ x, (x ∈ own ∨ x < 0) ∧ Mv 24 x M.ms S T M'.ms S' T'
  cnt : ∀ z, S'.count z + own'.count z + rz M' z = S.count z + own.count z + rz M z
  hdr : ∀ z, M'.hdr z ≠ M.hdr z → (z ∈ own ∨ rz M z = 1) ∧ ∃ s g, M'.hdr z = headerW s g ∧ 0 ≤ s ∧ s ≤ 4 ∧ 0 ≤ g ∧ g ≤ mo
  sn : ∀ z ∈ S', (z ∈ S ∧ M'.hdr z = M.hdr z) ∨ stW (M'.hdr z) = 0
  sst : M'.sst = M.sst
  sum : ∀ g, (M'.spk g - M.spk g - ((nR M' g : Int) - nR M g) - (tl' g - tl g)) % 18446744073709551616 = 0
  rng : ∀ g, 0 ≤ M.spk g ∧ M.spk g < 18446744073709551616 → 0 ≤ M'.spk g ∧ M'.spk g < 18446744073709551616
  out : ∀ z, rz M z = 1 → rz M' z = 0 → ∃ q ∈ pk, q.ln = 9 ∧ q.sl = z
  nine : ∀ q ∈ pk', q.ln = 9 → M.sst (segF q.sl) = 1
  resp : ∀ z, M.sst (segF z) = 1 → stW (M'.hdr z) = 3 → (∃ q ∈ pk', Rs q M' z) ∨ (M'.hdr z = M.hdr z ∧ ∀ q ∈ pk, ¬ Rs q M z)
def PkG (M : MA) (S : List Int) (T mo : Int) (o : PO) : Prop :=
  (0 ≤ o.sl ∧ o.sl < 24) ∧ (o.psh = ⟨1, 0, o.sl⟩ ∨ o.ln = 10) ∧ o.psh.to = o.sl ∧
  ((o.ln = 1 ∧ stW (M.hdr o.sl) = 0) ∨ ((0 ≤ gW o.w ∧ gW o.w ≤ mo) ∧ ((o.ln = 2 ∧ M.hdr o.sl = headerW 0 (gW o.w)) ∨ (3 ≤ o.ln ∧ o.ln ≤ 9) ∨ o.ln = 11 ∨ o.ln = 12 ∨ (o.ln = 10 ∧ M.hdr o.sl = headerW 0 (gW o.w) ∧ OpOk 24 M.ms S T (.push o.psh)))))
section
variable {S : List Int} {T : Int} {M : MA} {mo : Int}
theorem stW_hdr' {s g h : Int} (e : h = headerW s g) (h0 : 0 ≤ s) (h1 : s ≤ 4) (g0 : 0 ≤ g) (g1 : g < 4294967296) : stW h = s := by rw [e, stW_header s g h0 h1 g0 g1]
theorem gW_hdr' {s g h : Int} (e : h = headerW s g) (h0 : 0 ≤ s) (h1 : s ≤ 4) (g0 : 0 ≤ g) (g1 : g < 4294967296) : gW h = g := by rw [e, gW_header s g h0 h1 g0 g1]
/-- A step that turns no header, and the list not. -/
theorem Ef.plain {own : List Int} {pk pk' : List PO} {tl tl' : Int → Int} {M' : MA} (stk : Stk M.ms S T) (hms : M'.ms = M.ms) (hh : M'.hdr = M.hdr) (hs : M'.sst = M.sst) (hsn : ∀ z ∈ S, stW (M.hdr z) = 0)
    (hsum : ∀ g, (M'.spk g - M.spk g - (tl' g - tl g)) % 18446744073709551616 = 0) (hrng : ∀ g, 0 ≤ M.spk g ∧ M.spk g < 18446744073709551616 → 0 ≤ M'.spk g ∧ M'.spk g < 18446744073709551616) (h9 : ∀ q ∈ pk', q.ln = 9 → M.sst (segF q.sl) = 1) (hr : ∀ z, M.sst (segF z) = 1 → stW (M.hdr z) = 3 → ∀ q ∈ pk, Rs q M z → ∃ q ∈ pk', Rs q M' z) :
    Ef mo M S T own pk tl M' S T own pk' tl' := by
  have er : ∀ z, rz M' z = rz M z := fun z => rz_eq (by rw [hh])
  have en : ∀ g, nR M' g = nR M g := fun g => nR_same fun y _ => by rw [hh]
  refine ⟨by rw [hms]; exact stk, Int.le_refl _, by omega, ⟨-1, .inr (by decide), by rw [hms]; exact Mv.refl _⟩, fun z => by rw [er], fun z h => absurd (by rw [hh]) h, fun z hz => .inr (by rw [hh]; exact hsn z hz), hs, fun g => by rw [en]; have := hsum g; omega, hrng, fun z h1 h2 => by rw [er] at h2; omega, h9, fun z h1 h3 => ?_⟩
  rw [hh] at h3
  by_cases hx : ∃ q ∈ pk, Rs q M z
  · obtain ⟨q, hq, hq2⟩ := hx
    exact .inl (hr z h1 h3 q hq hq2)
  · exact .inr ⟨by rw [hh], fun q hq h => hx ⟨q, hq, h⟩⟩
theorem tl_upd {o o' : PO} {M' : MA} {a : Int} (hsl : o'.sl = o.sl) (hspk : ∀ g, g ≠ segF o.sl → M'.spk g = M.spk g) (ha : (M'.spk (segF o.sl) - M.spk (segF o.sl) - a) % 18446744073709551616 = 0) (ht : tlQ o' (segF o.sl) - tlQ o (segF o.sl) = a) (g : Int) : (M'.spk g - M.spk g - (tlQ o' g - tlQ o g)) % 18446744073709551616 = 0 := by
  by_cases h : segF o.sl = g
  · subst h; rw [ht]; exact ha
  · have e1 : tlQ o' g = 0 := by unfold tlQ; rw [if_neg (fun k => h (by rw [← hsl]; exact k.1))]
    have e2 : tlQ o g = 0 := by unfold tlQ; rw [if_neg (fun k => h k.1)]
    rw [e1, e2, hspk g (Ne.symm h)]
    omega
end
end Go.Proofs.YtmjcbjcnmgleaaaGreatDoor
namespace Go.Proofs.YtmjcbjcnmgleaaaGreatDoor
open Go.RowKit Go.Maps

section
variable {S : List Int} {T : Int} {M : MA} {mo : Int}
def Frm (M : MA) (mo : Int) : Prop := ∀ z, 0 ≤ z ∧ z < 24 → ∃ s g, M.hdr z = headerW s g ∧ 0 ≤ s ∧ s ≤ 4 ∧ 0 ≤ g ∧ g ≤ mo
theorem rz_of {s : Int} {z : Int} (h : stW (M.hdr z) = s) : rz M z = if s = 3 ∨ s = 4 then 1 else 0 := by unfold rz; rw [h]
theorem setH_ne {x v z : Int} (h : z ≠ x) : (M.setH x v).hdr z = M.hdr z := by simp [MA.setH, h]
theorem setH_at (x v : Int) : (M.setH x v).hdr x = v := by simp [MA.setH]
theorem up_mod {n : Int} : (up64 n - n - 1) % 18446744073709551616 = 0 := by unfold up64; omega
theorem down_mod {n : Int} : (down64 n - n - -1) % 18446744073709551616 = 0 := by unfold down64; omega
theorem tlQ_on {o : PO} (h : o.ln = 3 ∨ o.ln = 4 ∨ o.ln = 8 ∨ o.ln = 9 ∨ o.ln = 11 ∨ o.ln = 12) : tlQ o (segF o.sl) = -1 := by unfold tlQ; rw [if_pos ⟨rfl, h⟩]
theorem tlQ_off {o : PO} (h : ¬ (o.ln = 3 ∨ o.ln = 4 ∨ o.ln = 8 ∨ o.ln = 9 ∨ o.ln = 11 ∨ o.ln = 12)) (g : Int) : tlQ o g = 0 := by unfold tlQ; rw [if_neg fun k => h k.2]
/-- A step that turns no header. -/
theorem pk_plain {o o' : PO} {M' : MA} {a : Int} (stk : Stk M.ms S T) (hsn : ∀ z ∈ S, stW (M.hdr z) = 0) (hsl : o'.sl = o.sl) (hms : M'.ms = M.ms) (hh : M'.hdr = M.hdr) (hs : M'.sst = M.sst) (hspk : ∀ g, g ≠ segF o.sl → M'.spk g = M.spk g)
    (ha : (M'.spk (segF o.sl) - M.spk (segF o.sl) - a) % 18446744073709551616 = 0) (ht : tlQ o' (segF o.sl) - tlQ o (segF o.sl) = a) (hrng : 0 ≤ M.spk (segF o.sl) ∧ M.spk (segF o.sl) < 18446744073709551616 → 0 ≤ M'.spk (segF o.sl) ∧ M'.spk (segF o.sl) < 18446744073709551616)
    (h9 : o'.ln = 9 → M.sst (segF o.sl) = 1) (hr : M.sst (segF o.sl) = 1 → stW (M.hdr o.sl) = 3 → Rs o M o.sl → Rs o' M o.sl ∧ o'.ln ≠ 0) : Ef mo M S T (ownQ o) (lsQ o) (tlQ o) M' S T (ownQ o) (lsQ o') (tlQ o') := by
  refine Ef.plain stk hms hh hs hsn (tl_upd hsl hspk ha ht) (fun g h => ?_) (fun q hq h => ?_) (fun z h1 h3 q hq hR => ?_)
  · by_cases hg : g = segF o.sl
    · subst hg; exact hrng h
    · rw [hspk g hg]; exact h
  · unfold lsQ at hq
    split at hq
    · simp at hq
    · rw [List.mem_singleton] at hq
      subst hq
      rw [hsl]; exact h9 h
  · unfold lsQ at hq
    split at hq
    · simp at hq
    · rw [List.mem_singleton] at hq
      subst hq
      obtain ⟨rfl, r2⟩ := hR
      obtain ⟨r3, r4⟩ := hr h1 h3 ⟨rfl, r2⟩
      refine ⟨o', by unfold lsQ; rw [if_neg r4]; simp, r3.1, r3.2.1, r3.2.2.1, r3.2.2.2.trans (by rw [hh])⟩
theorem park_eff (stk : Stk M.ms S T) (hT : T + 1 < 1000000) {o : PO} (ok : PkG M S T mo o) (hmo : mo < 4294967296) (hsn : ∀ z ∈ S, stW (M.hdr z) = 0) (hfrm : Frm M mo) (hnS : ∀ z ∈ ownQ o, z ∉ S) (hspk : 0 ≤ M.spk (segF o.sl) ∧ M.spk (segF o.sl) < 18446744073709551616) :
    ∃ S' T', Ef mo M S T (ownQ o) (lsQ o) (tlQ o) (parkF o M).2 S' T' (ownQ (parkF o M).1) (lsQ (parkF o M).1) (tlQ (parkF o M).1) ∧ (parkF o M).1.sl = o.sl ∧ ((parkF o M).1.ln ≠ 0 → PkG (parkF o M).2 S' T' mo (parkF o M).1) := by
  obtain ⟨ln, sl, w, nn, psh, st⟩ := o
  obtain ⟨hin, hp, hto, hl⟩ := ok
  simp only at hin hp hto hl hspk
  have hrs : ∀ (l x : Int) (M' : MA) (z : Int), Rs ⟨ln, sl, w, nn, psh, st⟩ M z → 3 ≤ l → l ≤ 9 → Rs ⟨l, sl, w, x, psh, st⟩ M z := fun l x M' z h a b => ⟨h.1, a, b, h.2.2.2⟩
  rcases hl with ⟨rfl, hh⟩ | ⟨hg, hl⟩
  · -- 1
    have hpp : psh = ⟨1, 0, sl⟩ := by simpa using hp
    obtain ⟨s, g, e, s0, s1, g0, g1⟩ := hfrm sl hin
    obtain rfl : s = 0 := by rw [stW_hdr' e s0 s1 g0 (by omega)] at hh; exact hh
    have eg : gW (M.hdr sl) = g := gW_hdr' e (by decide) (by decide) g0 (by omega)
    refine ⟨S, T, pk_plain (o' := ⟨2, sl, M.hdr sl, nn, psh, st⟩) (a := 0) stk hsn rfl rfl rfl rfl (fun _ _ => rfl) (by simp [parkF]) (by simp [tlQ]) (fun h => h) (fun h => absurd h (by simp)) (fun _ _ h => absurd h.2.1 (by simp)), rfl, fun _ => ⟨hin, .inl hpp, hto, .inr ⟨?_, .inl ⟨rfl, ?_⟩⟩⟩⟩
    · show 0 ≤ gW (M.hdr sl) ∧ gW (M.hdr sl) ≤ mo
      omega
    · show M.hdr sl = headerW 0 (gW (M.hdr sl))
      rw [eg]; exact e
  · rcases hl with ⟨rfl, hh⟩ | ⟨l0, l1⟩ | rfl | rfl | ⟨rfl, hh, ho⟩
    · -- 2
      have hpp : psh = ⟨1, 0, sl⟩ := by simpa using hp
      have e : parkF ⟨2, sl, w, nn, psh, st⟩ M = (⟨3, sl, w, nn, psh, st⟩, M.setH sl (headerW 3 (gW w))) := by simp [parkF]
      rw [e]
      dsimp only
      have z0 : rz M sl = 0 := rz_of (stW_hdr' hh (by decide) (by decide) hg.1 (by omega))
      have z3 : stW ((M.setH sl (headerW 3 (gW w))).hdr sl) = 3 := stW_hdr' (setH_at _ _) (by decide) (by decide) hg.1 (by omega)
      have z1 : rz (M.setH sl (headerW 3 (gW w))) sl = 1 := rz_of z3
      have hS : sl ∉ S := hnS sl (by simp [ownQ])
      refine ⟨S, T, ⟨stk, Int.le_refl _, by omega, ⟨-1, .inr (by decide), Mv.refl _⟩, fun z => ?_, fun z hz => ?_, fun z hz => .inl ⟨hz, setH_ne fun e => hS (e ▸ hz)⟩, rfl, fun g => ?_, fun g h => h, fun z h1 h2 => ?_, fun q hq h => ?_, fun z h1 h3 => ?_⟩, rfl, fun _ => ⟨hin, .inl hpp, hto, .inr ⟨hg, .inr (.inl ⟨by simp, by simp⟩)⟩⟩⟩
      · by_cases hz : z = sl
        · subst hz; rw [z0, z1]; simp [ownQ]
        · rw [rz_eq (setH_ne hz)]; simp [ownQ, Ne.symm hz]
      · by_cases h : z = sl
        · subst h; exact ⟨.inl (by simp [ownQ]), 3, gW w, setH_at _ _, by decide, by decide, hg⟩
        · exact absurd (setH_ne h) hz
      · have := nR_upd (M := M) (M' := M.setH sl (headerW 3 (gW w))) (x := sl) (fun y hy => setH_ne hy) g
        rw [z0, z1] at this
        show (M.spk g - M.spk g - _ - (tlQ ⟨3, sl, w, nn, psh, st⟩ g - tlQ ⟨2, sl, w, nn, psh, st⟩ g)) % _ = 0
        rw [tlQ_off (o := ⟨2, sl, w, nn, psh, st⟩) (by simp)]
        by_cases h : segF sl = g
        · subst h
          rw [if_pos rfl, if_pos rfl] at this
          rw [tlQ_on (o := ⟨3, sl, w, nn, psh, st⟩) (by simp)]
          omega
        · rw [if_neg h, if_neg h] at this
          rw [show tlQ ⟨3, sl, w, nn, psh, st⟩ g = 0 by unfold tlQ; rw [if_neg fun k => h k.1]]
          omega
      · by_cases h : z = sl
        · subst h; omega
        · rw [rz_eq (setH_ne h)] at h2; omega
      · simp [lsQ] at hq; subst hq; simp at h
      · by_cases h : z = sl
        · subst h
          exact .inl ⟨⟨3, z, w, nn, psh, st⟩, by simp [lsQ], rfl, by simp, by simp, (gW_hdr' (setH_at _ _) (by decide) (by decide) hg.1 (by omega)).symm⟩
        · exact .inr ⟨setH_ne h, fun q hq hR => by simp [lsQ] at hq; subst hq; exact absurd hR.2.1 (by simp)⟩
    · have hpp : psh = ⟨1, 0, sl⟩ := by rcases hp with h | h
                                        · exact h
                                        · omega
      have hok : ∀ (M' : MA) (l x : Int), (3 ≤ l ∧ l ≤ 9) ∨ l = 11 ∨ l = 12 → PkG M' S T mo ⟨l, sl, w, x, psh, st⟩ := fun M' l x h => ⟨hin, .inl hpp, hto, .inr ⟨hg, .inr (h.elim .inl fun h => .inr (h.elim .inl fun h => .inr (.inl h)))⟩⟩
      obtain rfl | rfl | rfl | rfl | rfl | rfl | rfl : ln = 3 ∨ ln = 4 ∨ ln = 5 ∨ ln = 6 ∨ ln = 7 ∨ ln = 8 ∨ ln = 9 := by omega
      · refine ⟨S, T, pk_plain (o' := ⟨4, sl, w, M.spk (segF sl), psh, st⟩) (a := 0) stk hsn rfl rfl rfl rfl (fun _ _ => rfl) (by simp [parkF]) (by simp [tlQ]) (fun h => h) (fun h => absurd h (by simp)) (fun _ _ h => ⟨hrs 4 _ M _ h (by decide) (by decide), by simp⟩), rfl, fun _ => hok _ 4 _ (by simp)⟩
      · by_cases hc : M.spk (segF sl) = nn
        · have e : parkF ⟨4, sl, w, nn, psh, st⟩ M = (⟨5, sl, w, nn, psh, st⟩, M.setP (segF sl) (up64 nn)) := by simp [parkF, hc]
          rw [e]
          refine ⟨S, T, pk_plain (o' := ⟨5, sl, w, nn, psh, st⟩) (a := 1) stk hsn rfl rfl rfl rfl (fun g hg => by simp [MA.setP, hg]) (by simp only [MA.setP, if_true]; rw [hc]; exact up_mod) (by simp [tlQ]) (fun _ => by simp only [MA.setP, if_true, up64]; omega) (fun h => absurd h (by simp)) (fun _ _ h => ⟨hrs 5 _ M _ h (by decide) (by decide), by simp⟩), rfl, fun _ => hok _ 5 _ (by simp)⟩
        · have e : parkF ⟨4, sl, w, nn, psh, st⟩ M = (⟨3, sl, w, nn, psh, st⟩, M) := by simp [parkF, hc]
          rw [e]
          exact ⟨S, T, pk_plain (o' := ⟨3, sl, w, nn, psh, st⟩) (a := 0) stk hsn rfl rfl rfl rfl (fun _ _ => rfl) (by simp) (by simp [tlQ]) (fun h => h) (fun h => absurd h (by simp)) (fun _ _ h => ⟨hrs 3 _ M _ h (by decide) (by decide), by simp⟩), rfl, fun _ => hok _ 3 _ (by simp)⟩
      · by_cases hc : M.sst (segF sl) = 1
        · have e : parkF ⟨5, sl, w, nn, psh, st⟩ M = (⟨6, sl, w, nn, psh, st⟩, M) := by simp [parkF, hc]
          rw [e]
          exact ⟨S, T, pk_plain (o' := ⟨6, sl, w, nn, psh, st⟩) (a := 0) stk hsn rfl rfl rfl rfl (fun _ _ => rfl) (by simp) (by simp [tlQ]) (fun h => h) (fun h => absurd h (by simp)) (fun _ _ h => ⟨hrs 6 _ M _ h (by decide) (by decide), by simp⟩), rfl, fun _ => hok _ 6 _ (by simp)⟩
        · have e : parkF ⟨5, sl, w, nn, psh, st⟩ M = (⟨0, sl, w, nn, psh, true⟩, M) := by simp [parkF, hc]
          rw [e]
          exact ⟨S, T, pk_plain (o' := ⟨0, sl, w, nn, psh, true⟩) (a := 0) stk hsn rfl rfl rfl rfl (fun _ _ => rfl) (by simp) (by simp [tlQ]) (fun h => h) (fun h => absurd h (by simp)) (fun h => absurd h hc), rfl, fun h => absurd rfl h⟩
      · exact ⟨S, T, pk_plain (o' := ⟨7, sl, w, M.spk (segF sl), psh, st⟩) (a := 0) stk hsn rfl rfl rfl rfl (fun _ _ => rfl) (by simp [parkF]) (by simp [tlQ]) (fun h => h) (fun h => absurd h (by simp)) (fun _ _ h => ⟨hrs 7 _ M _ h (by decide) (by decide), by simp⟩), rfl, fun _ => hok _ 7 _ (by simp)⟩
      · by_cases hc : M.spk (segF sl) = nn
        · have e : parkF ⟨7, sl, w, nn, psh, st⟩ M = (⟨8, sl, w, nn, psh, st⟩, M.setP (segF sl) (down64 nn)) := by simp [parkF, hc]
          rw [e]
          exact ⟨S, T, pk_plain (o' := ⟨8, sl, w, nn, psh, st⟩) (a := -1) stk hsn rfl rfl rfl rfl (fun g hg => by simp [MA.setP, hg]) (by simp only [MA.setP, if_true]; rw [hc]; exact down_mod) (by simp [tlQ]) (fun _ => by simp only [MA.setP, if_true, down64]; omega) (fun h => absurd h (by simp)) (fun _ _ h => ⟨hrs 8 _ M _ h (by decide) (by decide), by simp⟩), rfl, fun _ => hok _ 8 _ (by simp)⟩
        · have e : parkF ⟨7, sl, w, nn, psh, st⟩ M = (⟨6, sl, w, nn, psh, st⟩, M) := by simp [parkF, hc]
          rw [e]
          exact ⟨S, T, pk_plain (o' := ⟨6, sl, w, nn, psh, st⟩) (a := 0) stk hsn rfl rfl rfl rfl (fun _ _ => rfl) (by simp) (by simp [tlQ]) (fun h => h) (fun h => absurd h (by simp)) (fun _ _ h => ⟨hrs 6 _ M _ h (by decide) (by decide), by simp⟩), rfl, fun _ => hok _ 6 _ (by simp)⟩
      · by_cases hc : M.sst (segF sl) = 1
        · have e : parkF ⟨8, sl, w, nn, psh, st⟩ M = (⟨9, sl, w, nn, psh, st⟩, M) := by simp [parkF, hc]
          rw [e]
          exact ⟨S, T, pk_plain (o' := ⟨9, sl, w, nn, psh, st⟩) (a := 0) stk hsn rfl rfl rfl rfl (fun _ _ => rfl) (by simp) (by simp [tlQ]) (fun h => h) (fun _ => hc) (fun _ _ h => ⟨hrs 9 _ M _ h (by decide) (by decide), by simp⟩), rfl, fun _ => hok _ 9 _ (by simp)⟩
        · have e : parkF ⟨8, sl, w, nn, psh, st⟩ M = (⟨3, sl, w, nn, psh, st⟩, M) := by simp [parkF, hc]
          rw [e]
          exact ⟨S, T, pk_plain (o' := ⟨3, sl, w, nn, psh, st⟩) (a := 0) stk hsn rfl rfl rfl rfl (fun _ _ => rfl) (by simp) (by simp [tlQ]) (fun h => h) (fun h => absurd h (by simp)) (fun _ _ h => ⟨hrs 3 _ M _ h (by decide) (by decide), by simp⟩), rfl, fun _ => hok _ 3 _ (by simp)⟩
      · by_cases hc : M.hdr sl = headerW 3 (gW w)
        · have e : parkF ⟨9, sl, w, nn, psh, st⟩ M = (⟨10, sl, w, nn, psh, st⟩, M.setH sl (headerW 0 (gW w))) := by simp [parkF, hc]
          rw [e]
          dsimp only
          have y3 : stW (M.hdr sl) = 3 := stW_hdr' hc (by decide) (by decide) hg.1 (by omega)
          have z0 : rz M sl = 1 := rz_of y3
          have y0 : stW ((M.setH sl (headerW 0 (gW w))).hdr sl) = 0 := stW_hdr' (setH_at _ _) (by decide) (by decide) hg.1 (by omega)
          have z1 : rz (M.setH sl (headerW 0 (gW w))) sl = 0 := rz_of y0
          have hS : sl ∉ S := fun h => by have := hsn sl h; omega
          refine ⟨S, T, ⟨stk, Int.le_refl _, by omega, ⟨-1, .inr (by decide), Mv.refl _⟩, fun z => ?_, fun z hz => ?_, fun z hz => .inl ⟨hz, setH_ne fun e => hS (e ▸ hz)⟩, rfl, fun g => ?_, fun g h => h, fun z h1 h2 => ?_, fun q hq h => ?_, fun z h1 h3 => ?_⟩, rfl, fun _ => ⟨hin, .inr rfl, hto, .inr ⟨hg, .inr (.inr (.inr (.inr ⟨rfl, setH_at _ _, ?_⟩)))⟩⟩⟩
          · by_cases hz : z = sl
            · subst hz; rw [z0, z1]; simp [ownQ]
            · rw [rz_eq (setH_ne hz)]; simp [ownQ, Ne.symm hz]
          · by_cases h : z = sl
            · subst h; exact ⟨.inr z0, 0, gW w, setH_at _ _, by decide, by decide, hg⟩
            · exact absurd (setH_ne h) hz
          · have := nR_upd (M := M) (M' := M.setH sl (headerW 0 (gW w))) (x := sl) (fun y hy => setH_ne hy) g
            rw [z0, z1] at this
            show (M.spk g - M.spk g - _ - (tlQ ⟨10, sl, w, nn, psh, st⟩ g - tlQ ⟨9, sl, w, nn, psh, st⟩ g)) % _ = 0
            rw [tlQ_off (o := ⟨10, sl, w, nn, psh, st⟩) (by simp)]
            by_cases h : segF sl = g
            · subst h
              rw [if_pos rfl, if_pos rfl] at this
              rw [tlQ_on (o := ⟨9, sl, w, nn, psh, st⟩) (by simp)]
              omega
            · rw [if_neg h, if_neg h] at this
              rw [show tlQ ⟨9, sl, w, nn, psh, st⟩ g = 0 by unfold tlQ; rw [if_neg fun k => h k.1]]
              omega
          · by_cases h : z = sl
            · subst h; exact ⟨⟨9, z, w, nn, psh, st⟩, by simp [lsQ], rfl, rfl⟩
            · rw [rz_eq (setH_ne h)] at h2; omega
          · simp [lsQ] at hq; subst hq; simp at h
          · have h : z ≠ sl := fun h => by subst h; omega
            exact .inr ⟨setH_ne h, fun q hq hR => by simp [lsQ] at hq; subst hq; exact h hR.1.symm⟩
          · rw [hpp]; exact ⟨u64_0, hin, .inl rfl⟩
        · have e : parkF ⟨9, sl, w, nn, psh, st⟩ M = (⟨11, sl, w, nn, psh, st⟩, M) := by simp [parkF, hc]
          rw [e]
          refine ⟨S, T, pk_plain (o' := ⟨11, sl, w, nn, psh, st⟩) (a := 0) stk hsn rfl rfl rfl rfl (fun _ _ => rfl) (by simp) (by simp [tlQ]) (fun h => h) (fun h => absurd h (by simp)) (fun _ h3 h => ?_), rfl, fun _ => hok _ 11 _ (by simp)⟩
          obtain ⟨s, g, e, s0, s1, g0, g1⟩ := hfrm sl hin
          have es : s = 3 := by rw [← stW_hdr' e s0 s1 g0 (by omega)]; exact h3
          have eg : gW w = g := h.2.2.2.trans (gW_hdr' e s0 s1 g0 (by omega))
          exact absurd (by rw [e, es, eg]) hc
    · have hpp : psh = ⟨1, 0, sl⟩ := by simpa using hp
      exact ⟨S, T, pk_plain (o' := ⟨12, sl, w, M.spk (segF sl), psh, st⟩) (a := 0) stk hsn rfl rfl rfl rfl (fun _ _ => rfl) (by simp [parkF]) (by simp [tlQ]) (fun h => h) (fun h => absurd h (by simp)) (fun _ _ h => absurd h.2.2.1 (by simp)), rfl, fun _ => ⟨hin, .inl hpp, hto, .inr ⟨hg, .inr (.inr (.inr (.inl rfl)))⟩⟩⟩
    · have hpp : psh = ⟨1, 0, sl⟩ := by simpa using hp
      by_cases hc : M.spk (segF sl) = nn
      · have e : parkF ⟨12, sl, w, nn, psh, st⟩ M = (⟨0, sl, w, nn, psh, st⟩, M.setP (segF sl) (up64 nn)) := by simp [parkF, hc]
        rw [e]
        exact ⟨S, T, pk_plain (o' := ⟨0, sl, w, nn, psh, st⟩) (a := 1) stk hsn rfl rfl rfl rfl (fun g hg => by simp [MA.setP, hg]) (by simp only [MA.setP, if_true]; rw [hc]; exact up_mod) (by simp [tlQ]) (fun _ => by simp only [MA.setP, if_true, up64]; omega) (fun h => absurd h (by simp)) (fun _ _ h => absurd h.2.2.1 (by simp)), rfl, fun h => absurd rfl h⟩
      · have e : parkF ⟨12, sl, w, nn, psh, st⟩ M = (⟨11, sl, w, nn, psh, st⟩, M) := by simp [parkF, hc]
        rw [e]
        exact ⟨S, T, pk_plain (o' := ⟨11, sl, w, nn, psh, st⟩) (a := 0) stk hsn rfl rfl rfl rfl (fun _ _ => rfl) (by simp) (by simp [tlQ]) (fun h => h) (fun h => absurd h (by simp)) (fun _ _ h => absurd h.2.2.1 (by simp)), rfl, fun _ => ⟨hin, .inl hpp, hto, .inr ⟨hg, .inr (.inr (.inl rfl))⟩⟩⟩
    · -- 10
      have hS : sl ∉ S := hnS sl (by simp [ownQ])
      obtain ⟨S', T', h1, h2, h3, h4, h5, h6⟩ := pushA_step stk (n := 24) (by decide) hT (o := psh) (by rw [hto]; exact hS) ho
      rw [hto] at h5 h4 h6
      have e : parkF ⟨10, sl, w, nn, psh, st⟩ M = (⟨if (pushF psh M.ms).1.nx = 0 then 0 else 10, sl, w, nn, (pushF psh M.ms).1, st⟩, { M with ms := (pushF psh M.ms).2 }) := by simp [parkF]
      rw [e]
      dsimp only
      have ez : ∀ z, rz { M with ms := (pushF psh M.ms).2 } z = rz M z := fun z => rz_eq rfl
      have en : ∀ g, nR { M with ms := (pushF psh M.ms).2 } g = nR M g := fun g => nR_same fun y _ => rfl
      have ey : stW (M.hdr sl) = 0 := stW_hdr' hh (by decide) (by decide) hg.1 (by omega)
      have hR : ∀ z, stW (M.hdr z) = 3 → ∀ q ∈ lsQ ⟨10, sl, w, nn, psh, st⟩, ¬ Rs q M z := fun z _ q hq hR => by simp [lsQ] at hq; subst hq; exact absurd hR.2.2.1 (by simp)
      refine ⟨S', T', ⟨h1, h2, h3, ⟨sl, .inl (by simp [ownQ]), h5⟩, fun z => ?_, fun z hz => absurd rfl hz, fun z hz => ?_, rfl, fun g => ?_, fun g h => h, fun z a b => by rw [ez] at b; omega, fun q hq h => ?_, fun z _ a => .inr ⟨rfl, hR z a⟩⟩, rfl, fun hz => ?_⟩
      · rw [ez]
        rcases h6 with ⟨k1, k2, k3, k4⟩ | ⟨k1, k2, k3⟩
        · rw [if_neg k1, k2]; simp [ownQ]
        · rw [if_pos k1, k2, show ownQ ⟨0, sl, w, nn, (pushF psh M.ms).1, st⟩ = [] by simp [ownQ], show ownQ ⟨10, sl, w, nn, psh, st⟩ = [sl] by simp [ownQ]]
          simp only [List.count_cons, List.count_nil]
          omega
      · rcases h6 with ⟨k1, k2, k3, k4⟩ | ⟨k1, k2, k3⟩
        · rw [k2] at hz; exact .inl ⟨hz, rfl⟩
        · rw [k2] at hz
          rcases List.mem_cons.1 hz with rfl | hz
          · exact .inr ey
          · exact .inl ⟨hz, rfl⟩
      · rw [en, tlQ_off (o := ⟨10, sl, w, nn, psh, st⟩) (by simp), tlQ_off (by show ¬ ((if (pushF psh M.ms).1.nx = 0 then (0 : Int) else 10) = 3 ∨ _); split <;> simp)]
        show (M.spk g - M.spk g - _ - _) % _ = 0
        omega
      · rcases h6 with ⟨k1, k2, k3, k4⟩ | ⟨k1, k2, k3⟩
        · rw [if_neg k1] at hq
          simp [lsQ] at hq
          subst hq
          simp at h
        · rw [if_pos k1] at hq
          simp [lsQ] at hq
      · rcases h6 with ⟨k1, k2, k3, k4⟩ | ⟨k1, k2, k3⟩
        · rw [if_neg k1]
          exact ⟨hin, .inr rfl, h4, .inr ⟨hg, .inr (.inr (.inr (.inr ⟨rfl, hh, k3⟩)))⟩⟩
        · rw [if_pos k1] at hz; exact absurd rfl hz
end
end Go.Proofs.YtmjcbjcnmgleaaaGreatDoor
