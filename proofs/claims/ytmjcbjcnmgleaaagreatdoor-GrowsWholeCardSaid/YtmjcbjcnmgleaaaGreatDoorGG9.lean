/-
  Threads and a keeper of segments, in plain words: what holds between their steps, that each step keeps it, what the law asks in the end; no condition.
  How many steps are left, if nobody else steps: of a Park, of what a thread has under way, of the keeper; no condition.
  How many steps are left to the keeper of segments, if nobody else steps; and so to each, by what holds between the steps; no condition.
-/
import Derived.Test.YtmjcbjcnmgleaaaGreatDoorGG6
import Derived.Test.YtmjcbjcnmgleaaaGreatDoorAG4
namespace Go.Proofs.YtmjcbjcnmgleaaaGreatDoor
open Go.RowKit Go.Maps

/-- What a thread owns; all threads'; their Parks; what they tell. -/
def ownU (t : TA) : List Int := t.held.map (·.1) ++ ownL t.op
def cU (th : Nat → TA) (z : Int) : Nat := sum6 fun k => (ownU (th k)).count z
def pU (th : Nat → TA) (q : PO) : Prop := ∃ k, k < 6 ∧ q ∈ parkL (th k).op
def sumZ (f : Nat → Int) : Int := f 0 + f 1 + f 2 + f 3 + f 4 + f 5
def tU (th : Nat → TA) (g : Int) : Int := sumZ fun k => tellL (th k).op g
theorem sumZ_upd (f : Nat → Int) (g : Nat → Int) {k : Nat} (hk : k < 6) (h : ∀ j, j ≠ k → g j = f j) : sumZ g + f k = sumZ f + g k := by
  unfold sumZ
  have a := h 0; have b := h 1; have c := h 2; have d := h 3; have e := h 4; have i := h 5
  obtain rfl | rfl | rfl | rfl | rfl | rfl : k = 0 ∨ k = 1 ∨ k = 2 ∨ k = 3 ∨ k = 4 ∨ k = 5 := by omega
  all_goals simp at a b c d e i; omega
theorem sumZ_le (f : Nat → Int) (h : ∀ j, -1 ≤ f j ∧ f j ≤ 0) : -50 ≤ sumZ f ∧ sumZ f ≤ 0 := by
  unfold sumZ
  have a := h 0; have b := h 1; have c := h 2; have d := h 3; have e := h 4; have i := h 5
  omega
theorem sumZ_one (f : Nat → Int) (h : ∀ j, -1 ≤ f j ∧ f j ≤ 0) {k : Nat} (hk : k < 6) : sumZ f ≤ f k := by
  unfold sumZ
  have a := h 0; have b := h 1; have c := h 2; have d := h 3; have e := h 4; have i := h 5
  obtain rfl | rfl | rfl | rfl | rfl | rfl : k = 0 ∨ k = 1 ∨ k = 2 ∨ k = 3 ∨ k = 4 ∨ k = 5 := by omega
  all_goals omega
theorem tlQ_rng (o : PO) (g : Int) : -1 ≤ tlQ o g ∧ tlQ o g ≤ 0 := by unfold tlQ; split <;> omega
theorem tellL_rng (op : AO) (g : Int) : -1 ≤ tellL op g ∧ tellL op g ≤ 0 := by
  cases op with
  | no => simp [tellL]
  | al o =>
    have := tlQ_rng o.pk g
    simp only [tellL]
    split <;> omega
  | fr o =>
    have := tlQ_rng o.pk g
    simp only [tellL]
    repeat' split
    all_goals omega
theorem tell9 {op : AO} {q : PO} (hq : q ∈ parkL op) (h9 : q.ln = 9) : tellL op (segF q.sl) = -1 := by
  have ls : ∀ {p : PO}, q ∈ lsQ p → q = p := fun {p} h => by
    unfold lsQ at h
    split at h
    · simp at h
    · simpa using h
  cases op with
  | no => simp [parkL] at hq
  | al o =>
    simp only [parkL] at hq
    split at hq
    · rename_i e
      obtain rfl := ls hq
      simp only [tellL, if_pos e]
      exact tlQ_on (by simp [h9])
    · simp at hq
  | fr o =>
    simp only [parkL] at hq
    split at hq
    · rename_i e
      obtain rfl := ls hq
      simp only [tellL]
      rw [if_neg (by omega), if_pos e]
      exact tlQ_on (by simp [h9])
    · simp at hq
/-- What holds between two steps. -/
structure InvK (N mo : Int) (th : Nat → TA) (K : KO) (S : List Int) (T : Int) (M : MA) : Prop where
  G : GK N mo (cU th) (pU th) (tU th) K M S T
  ok : KG M S T mo K
  held : ∀ k, k < 6 → ∀ p ∈ (th k).held, M.hdr p.1 = headerW 1 p.2 ∧ 0 ≤ p.2 ∧ p.2 ≤ mo
  ops : ∀ k, k < 6 → OkG M S T mo (th k).op
section
variable {N mo : Int} {th : Nat → TA} {S S' : List Int} {T T' : Int} {M M' : MA} {K K' : KO}
theorem cU_pos {k : Nat} (hk : k < 6) {z : Int} (h : z ∈ ownU (th k)) : 0 < cU th z := by
  have h1 := List.count_pos_iff.2 h
  have h2 := sum6_ge (fun k => (ownU (th k)).count z) hk
  unfold cU
  omega
theorem ownU_held {t : TA} {p : Int × Int} (h : p ∈ t.held) : p.1 ∈ ownU t := by unfold ownU; exact List.mem_append_left _ (List.mem_map_of_mem h)
theorem ownU_op {t : TA} {z : Int} (h : z ∈ ownL t.op) : z ∈ ownU t := by unfold ownU; exact List.mem_append_right _ h
/-- A step of the keeper's. -/
theorem InvK.keep (I : InvK N mo th K S T M) (hmo : mo < 4294967296) (hT : T + 1 < 1000000) (h0 : K.ln ≠ 0) : ∃ S' T', InvK N mo th (kF K M).1 S' T' (kF K M).2 ∧ T ≤ T' ∧ T' ≤ T + 1 := by
  obtain ⟨S', T', G', ok', t0, t1, hh, x, hx, mv⟩ := keeper_out I.G I.ok hmo hT (fun g _ _ => sumZ_le _ fun j => tellL_rng _ _) (fun q hq h9 _ _ => by
    obtain ⟨k, hk, hq⟩ := hq
    have h1 := sumZ_one (fun k => tellL (th k).op (segF q.sl)) (fun j => tellL_rng _ _) hk
    have h2 := tell9 hq h9
    unfold tU
    try dsimp only at h1
    omega) h0
  refine ⟨S', T', ⟨G', ok', fun k hk p hp => ?_, fun k hk => ?_⟩, t0, t1⟩
  · rw [hh _ (cU_pos hk (ownU_held hp))]
    exact I.held k hk p hp
  · exact (I.ops k hk).keep (fun z hz => hh z (cU_pos hk (ownU_op hz))) ⟨x, fun z hz => hx z (cU_pos hk (ownU_op hz)), mv⟩
/-- The keeper begins something. -/
theorem InvK.kbegin (I : InvK N mo th K S T M) (h0 : K.ln = 0) (h1 : K'.ln = 1) (hk : K'.kept = []) (hs : 0 ≤ K'.seg ∧ K'.seg < 3) : InvK N mo th K' S T M := by
  have hkk : K.kept = [] := by
    rcases I.ok.2.2 with ⟨h, _⟩ | ⟨_, ⟨h, _⟩ | ⟨h, _⟩ | ⟨h, _⟩ | ⟨h, _⟩⟩ | ⟨h, _⟩
    · exact h
    · exact h
    · omega
    · omega
    · omega
    · exact h
  have a1 : ownK K' = [] := by unfold ownK; rw [h1, hk]; simp
  have a2 : parkK K' = [] := by unfold parkK; rw [h1]; simp
  have a3 : ∀ g, tellK K' g = 0 := fun g => by unfold tellK; rw [h1]; simp
  have b1 : ownK K = [] := by unfold ownK; rw [h0, hkk]; simp
  have b2 : parkK K = [] := by unfold parkK; rw [h0]; simp
  have b3 : ∀ g, tellK K g = 0 := fun g => by unfold tellK; rw [h0]; simp
  have G : Glob N mo (fun z => (ownK K').count z + cU th z) (fun q => q ∈ parkK K' ∨ pU th q) (fun g => tellK K' g + tU th g) K M S T := I.G.cong (fun z => by rw [a1, b1]) (fun q => by rw [a2, b2]) (fun g => by rw [a3, b3])
  refine ⟨⟨G.nn, G.stk, G.cnt, G.frm, G.sn, G.rng, G.sum, G.st, fun g a b => ⟨fun h => absurd ((G.dr g a b).1 h).2.2.1 (by omega), fun h => absurd h.2.2.1 (by omega)⟩, fun h => by omega, fun g a b h => G.none g a b (h.elim .inl fun h => by omega), fun z a b c d => (G.resp z a b c d).elim .inl fun h => absurd h.1 (by omega)⟩, ⟨hs, fun z hz => by rw [hk] at hz; simp at hz, .inl ⟨hk, .inr (.inl h1)⟩⟩, I.held, I.ops⟩
theorem KG.keep (h : KG M S T mo K) (hh : ∀ z ∈ ownK K, M'.hdr z = M.hdr z) (mv : ∃ x, (∀ z ∈ ownK K, z ≠ x) ∧ Mv 24 x M.ms S T M'.ms S' T') : KG M' S' T' mo K := by
  obtain ⟨h1, h2, h3⟩ := h
  have kin : ∀ z ∈ K.kept, z ∈ ownK K := fun z hz => by unfold ownK; simp [hz]
  refine ⟨h1, fun z hz => by rw [hh z (kin z hz)]; exact h2 z hz, ?_⟩
  rcases h3 with h | ⟨hs, h⟩ | ⟨hk, hin, h⟩
  · exact .inl h
  · refine .inr (.inl ⟨hs, ?_⟩)
    rcases h with h | ⟨a, b⟩ | ⟨a, b, c⟩ | ⟨a, b, c, d⟩
    · exact .inl h
    · obtain ⟨x, _, hm⟩ := mv
      exact .inr (.inl ⟨a, hm _ (fun y hy => by simp [pend] at hy) b⟩)
    · have hq : ∀ z ∈ ownQ K.pk, z ∈ ownK K := fun z hz => by unfold ownK; rw [if_pos a]; simp [hz]
      obtain ⟨x, hx, hm⟩ := mv
      exact .inr (.inr (.inl ⟨a, b, c.keep (fun z hz => hh z (hq z hz)) ⟨x, fun z hz => hx z (hq z hz), hm⟩⟩))
    · obtain ⟨x, hx, hm⟩ := mv
      refine .inr (.inr (.inr ⟨a, b, c, hm _ (fun y hy => ?_) d⟩))
      simp [pend] at hy
      rw [hy, c]
      exact hx _ (kin _ (last_of b).1)
  · refine .inr (.inr ⟨hk, hin, ?_⟩)
    have hs : K.ln = 13 ∨ K.ln = 14 ∨ K.ln = 15 → K.slot ∈ ownK K := fun h => by unfold ownK; rw [if_pos h]; simp
    rcases h with h | h | ⟨a, b⟩ | ⟨a, b, c, d⟩
    · exact .inl h
    · exact .inr (.inl h)
    · exact .inr (.inr (.inl ⟨a, by rw [hh _ (hs (by omega))]; exact b⟩))
    · obtain ⟨x, hx, hm⟩ := mv
      refine .inr (.inr (.inr ⟨a, by rw [hh _ (hs (by omega))]; exact b, c, hm _ (fun y hy => ?_) d⟩))
      simp [pend] at hy
      rw [hy, c]
      exact hx _ (hs (by omega))
/-- A step of a thread that has something under way. -/
theorem InvK.go (I : InvK N mo th K S T M) (hmo : mo < 4294967296) (hT : T + 1 < 1000000) {k : Nat} (hk : k < 6) (hop : (th k).op ≠ .no) :
    ∃ S' T', InvK N mo (updA th k (goA (th k) M).1) K S' T' (goA (th k) M).2 ∧ T ≤ T' ∧ T' ≤ T + 1 ∧ (goA (th k) M).2.sst = M.sst := by
  have hnS : ∀ z ∈ ownL (th k).op, z ∉ S := fun z hz => (I.G.own24 (z := z) (by
    have := cU_pos hk (ownU_op hz)
    show 0 < (ownK K).count z + cU th z
    omega)).2.1
  have main : ∃ S' T', Ef mo M S T (ownL (th k).op) (parkL (th k).op) (tellL (th k).op) (memA (th k).op M) S' T' ((gainA (th k).op M).map (·.1) ++ ownL (stepA (th k).op M)) (parkL (stepA (th k).op M)) (tellL (stepA (th k).op M)) ∧ OkG (memA (th k).op M) S' T' mo (stepA (th k).op M) ∧ ∀ p ∈ gainA (th k).op M, (memA (th k).op M).hdr p.1 = headerW 1 p.2 ∧ 0 ≤ p.2 ∧ p.2 ≤ mo := by
    have ok := I.ops k hk
    cases e : (th k).op with
    | no => exact absurd e hop
    | al o => rw [e] at hnS ok; exact al_eff I.G.stk hT ok hmo I.G.sn I.G.frm hnS (fun z hz => I.G.s24 hz) I.G.rng
    | fr o =>
      rw [e] at hnS ok
      obtain ⟨S', T', E, h⟩ := fr_eff I.G.stk hT ok hmo I.G.sn I.G.frm hnS I.G.rng
      exact ⟨S', T', by simpa [gainA, memA, stepA] using E, h, by simp [gainA]⟩
  obtain ⟨S', T', E, ok', hg⟩ := main
  rw [goA_eq]
  generalize gainA (th k).op M = gain at *
  generalize stepA (th k).op M = op' at *
  generalize memA (th k).op M = M' at *
  have hle : ∀ z, (ownL (th k).op).count z ≤ cU th z := fun z => by
    have h2 := sum6_ge (fun k => (ownU (th k)).count z) hk
    simp only [ownU, List.count_append] at h2
    unfold cU
    simp only [ownU, List.count_append]
    omega
  have hcR : ∀ z, (ownK K).count z + cU th z = (ownL (th k).op).count z + ((ownK K).count z + (cU th z - (ownL (th k).op).count z)) := fun z => by have := hle z; omega
  have hrest : ∀ {z}, 0 < (ownK K).count z + (cU th z - (ownL (th k).op).count z) → M'.hdr z = M.hdr z ∧ z ∉ ownL (th k).op := fun {z} hz => E.rest I.G (cR := fun z => (ownK K).count z + (cU th z - (ownL (th k).op).count z)) hcR hz
  have hoth : ∀ j, j < 6 → j ≠ k → ∀ z ∈ ownU (th j), 0 < (ownK K).count z + (cU th z - (ownL (th k).op).count z) := fun j hj hjk z hz => by
    have h1 := List.count_pos_iff.2 hz
    have h2 := sum6_ge2 (fun k => (ownU (th k)).count z) hj hk hjk
    have h3 : (ownU (th k)).count z = ((th k).held.map (·.1)).count z + (ownL (th k).op).count z := by simp only [ownU, List.count_append]
    unfold cU
    try dsimp only at h2
    omega
  have hhel : ∀ p ∈ (th k).held, 0 < (ownK K).count p.1 + (cU th p.1 - (ownL (th k).op).count p.1) := fun p hp => by
    have h1 := List.count_pos_iff.2 (List.mem_map_of_mem (f := (·.1)) hp)
    have h2 := sum6_ge (fun k => (ownU (th k)).count p.1) hk
    have h3 : (ownU (th k)).count p.1 = ((th k).held.map (·.1)).count p.1 + (ownL (th k).op).count p.1 := by simp only [ownU, List.count_append]
    unfold cU
    try dsimp only at h2
    omega
  obtain ⟨x, hx, mv⟩ := E.mv
  have hxo : ∀ {z}, 0 < (ownK K).count z + (cU th z - (ownL (th k).op).count z) → z ≠ x := fun {z} hz e => by
    subst e
    rcases hx with h | h
    · exact (hrest hz).2 h
    · have := (I.G.own24 (z := z) (by show 0 < (ownK K).count z + cU th z; omega)).1
      omega
  have htl : ∀ g, tU (updA th k ⟨(th k).held ++ gain, op'⟩) g = tU th g - tellL (th k).op g + tellL op' g := fun g => by
    have h := sumZ_upd (fun j => tellL (th j).op g) (fun j => tellL (updA th k ⟨(th k).held ++ gain, op'⟩ j).op g) hk (fun j hj => by rw [updA_ne _ _ hj])
    rw [updA_same] at h
    unfold tU
    try dsimp only at h
    omega
  have hcn : ∀ z, cU (updA th k ⟨(th k).held ++ gain, op'⟩) z = (gain.map (·.1) ++ ownL op').count z + (cU th z - (ownL (th k).op).count z) := fun z => by
    have h := sum6_upd (fun j => (ownU (th j)).count z) (fun j => (ownU (updA th k ⟨(th k).held ++ gain, op'⟩ j)).count z) hk (fun j hj => by rw [updA_ne _ _ hj])
    rw [updA_same] at h
    have h2 := hle z
    simp only [ownU, List.count_append, List.map_append] at h
    unfold cU at *
    simp only [ownU, List.count_append] at *
    omega
  refine ⟨S', T', ⟨?_, ?_, fun j hj p hp => ?_, fun j hj => ?_⟩, E.t0, E.t1, E.sst⟩
  · refine I.G.thread E (cR := fun z => (ownK K).count z + (cU th z - (ownL (th k).op).count z)) (PR := fun q => q ∈ parkK K ∨ ∃ j, j < 6 ∧ j ≠ k ∧ q ∈ parkL (th j).op) (tR := fun g => tellK K g + (tU th g - tellL (th k).op g)) hcR (fun z => ?_) (fun q => ?_) (fun q => ?_) (fun g => ?_) (fun g => ?_)
    · have := hcn z
      try dsimp only
      omega
    · constructor
      · rintro (h | ⟨j, hj, h⟩)
        · exact .inr (.inl h)
        · by_cases e : j = k
          · subst e; exact .inl h
          · exact .inr (.inr ⟨j, hj, e, h⟩)
      · rintro (h | h | ⟨j, hj, _, h⟩)
        · exact .inr ⟨k, hk, h⟩
        · exact .inl h
        · exact .inr ⟨j, hj, h⟩
    · constructor
      · rintro (h | ⟨j, hj, h⟩)
        · exact .inr (.inl h)
        · by_cases e : j = k
          · subst e; rw [updA_same] at h; exact .inl h
          · rw [updA_ne _ _ e] at h; exact .inr (.inr ⟨j, hj, e, h⟩)
      · rintro (h | h | ⟨j, hj, e, h⟩)
        · exact .inr ⟨k, hk, by rw [updA_same]; exact h⟩
        · exact .inl h
        · exact .inr ⟨j, hj, by rw [updA_ne _ _ e]; exact h⟩
    · show tellK K g + tU th g = _
      omega
    · have := htl g
      try dsimp only
      omega
  · refine I.ok.keep (fun z hz => (hrest ?_).1) ⟨x, fun z hz => hxo ?_, mv⟩
    · have := List.count_pos_iff.2 hz; omega
    · have := List.count_pos_iff.2 hz; omega
  · by_cases e : j = k
    · subst e
      rw [updA_same] at hp
      rcases List.mem_append.1 hp with hp | hp
      · rw [(hrest (hhel p hp)).1]; exact I.held j hj p hp
      · exact hg p hp
    · rw [updA_ne _ _ e] at hp
      rw [(hrest (hoth j hj e _ (ownU_held hp))).1]
      exact I.held j hj p hp
  · by_cases e : j = k
    · subst e; rw [updA_same]; exact ok'
    · rw [updA_ne _ _ e]
      exact (I.ops j hj).keep (fun z hz => (hrest (hoth j hj e z (ownU_op hz))).1) ⟨x, fun z hz => hxo (hoth j hj e z (ownU_op hz)), mv⟩
theorem InvK.begin (I : InvK N mo th K S T M) (hmo : mo < 4294967296) {k : Nat} (hk : k < 6) (b : Bool) : InvK N mo (updA th k (beginA (th k) b mo)) K S T M ∧ (beginA (th k) b mo).op ≠ .no := by
  have hop := I.ops k hk
  have key : ∀ t : TA, (∀ z, (ownU t).count z = (ownU (th k)).count z) → (∀ p ∈ t.held, p ∈ (th k).held) → OkG M S T mo t.op → parkL t.op = parkL (th k).op → (∀ g, tellL t.op g = tellL (th k).op g) → InvK N mo (updA th k t) K S T M := by
    intro t hc hh ho hp ht
    refine ⟨I.G.cong (fun z => ?_) (fun q => ?_) (fun g => ?_), I.ok, fun j hj p hp => ?_, fun j hj => ?_⟩
    · have h := sum6_upd (fun j => (ownU (th j)).count z) (fun j => (ownU (updA th k t j)).count z) hk (fun j hj => by rw [updA_ne _ _ hj])
      have h2 := hc z
      rw [updA_same] at h
      unfold cU
      omega
    · constructor
      · rintro (h | ⟨j, hj, h⟩)
        · exact .inl h
        · by_cases e : j = k
          · subst e; rw [updA_same, hp] at h; exact .inr ⟨j, hj, h⟩
          · rw [updA_ne _ _ e] at h; exact .inr ⟨j, hj, h⟩
      · rintro (h | ⟨j, hj, h⟩)
        · exact .inl h
        · by_cases e : j = k
          · subst e; exact .inr ⟨j, hj, by rw [updA_same, hp]; exact h⟩
          · exact .inr ⟨j, hj, by rw [updA_ne _ _ e]; exact h⟩
    · have h := sumZ_upd (fun j => tellL (th j).op g) (fun j => tellL (updA th k t j).op g) hk (fun j hj => by rw [updA_ne _ _ hj])
      have h2 := ht g
      rw [updA_same] at h
      unfold tU
      omega
    · by_cases e : j = k
      · subst e; rw [updA_same] at hp; exact I.held j hj p (hh p hp)
      · rw [updA_ne _ _ e] at hp; exact I.held j hj p hp
    · by_cases e : j = k
      · subst e; rw [updA_same]; exact ho
      · rw [updA_ne _ _ e]; exact I.ops j hj
  have hh := I.held k hk
  have ho : ∀ z ∈ ownU (th k), 0 ≤ z ∧ z < 24 := fun z hz => (I.G.own24 (z := z) (by
    have := cU_pos hk hz
    show 0 < (ownK K).count z + cU th z
    omega)).1
  generalize th k = t at *
  obtain ⟨held, op⟩ := t
  cases op with
  | al o => exact ⟨key _ (fun _ => rfl) (fun _ h => h) hop rfl (fun _ => rfl), by simp [beginA]⟩
  | fr o => exact ⟨key _ (fun _ => rfl) (fun _ h => h) hop rfl (fun _ => rfl), by simp [beginA]⟩
  | no =>
    by_cases h : b = true ∧ held ≠ []
    · cases held with
      | nil => exact absurd rfl h.2
      | cons p r =>
        have e : beginA ⟨p :: r, .no⟩ b mo = ⟨r, .fr (newFr p.1 mo)⟩ := by simp [beginA, h.1]
        rw [e]
        obtain ⟨e1, e3, e4⟩ := hh p (by simp)
        exact ⟨key _ (fun z => by simp [ownU, ownL, newFr, List.count_cons, List.count_append]) (fun q hq => List.mem_cons_of_mem _ hq) ⟨rfl, ho p.1 (by simp [ownU]), .inl ⟨rfl, stW_hdr' e1 (by decide) (by decide) e3 (by omega)⟩⟩ (by simp [parkL, newFr]) (fun g => by simp [tellL, newFr]), by simp⟩
    · have e : beginA ⟨held, .no⟩ b mo = ⟨held, .al newAl⟩ := by simp only [beginA]; rw [if_neg h]
      rw [e]
      exact ⟨key _ (fun z => by simp [ownU, ownL, newAl]) (fun q hq => hq) ⟨rfl, .inl ⟨rfl, u64_0, .inl rfl⟩⟩ (by simp [parkL, newAl]) (fun g => by simp [tellL, newAl]), by simp⟩
/-- A whole step of thread k. -/
theorem InvK.step (I : InvK N mo th K S T M) (hmo : mo < 4294967296) (hT : T + 1 < 1000000) {k : Nat} (hk : k < 6) (b : Bool) :
    ∃ S' T', InvK N mo (stepTA th k b mo M).1 K S' T' (stepTA th k b mo M).2 ∧ T ≤ T' ∧ T' ≤ T + 1 ∧ (stepTA th k b mo M).2.sst = M.sst := by
  obtain ⟨I1, hop⟩ := I.begin hmo hk b
  have hop' : (updA th k (beginA (th k) b mo) k).op ≠ .no := by rw [updA_same]; exact hop
  obtain ⟨S', T', h1, h2, h3, h4⟩ := I1.go hmo hT hk hop'
  rw [updA_same] at h1 h4
  rw [updA_two] at h1
  exact ⟨S', T', h1, h2, h3, h4⟩
/-- Where nothing is live, or in the list. -/
theorem InvK.none_ (I : InvK N mo th K S T M) {g : Int} (h0 : 0 ≤ g) (h1 : 8 * g < N) (h : M.sst g = 0) {z : Int} (hz : segF z = g) : stW (M.hdr z) = 3 ∨ stW (M.hdr z) = 4 := by
  have := (I.G.none g h0 h1 (.inl h)).1 z hz
  unfold rz at this
  split at this
  · assumption
  · omega
theorem InvK.free_up (I : InvK N mo th K S T M) {z : Int} (hz : z ∈ S) : (0 ≤ z ∧ z < N) ∧ M.sst (segF z) ≠ 0 ∧ stW (M.hdr z) = 0 := by
  have h := I.G.sN hz
  have h2 := I.G.sn z hz
  refine ⟨h, fun e => ?_, h2⟩
  rcases I.none_ (by unfold segF; omega) (by unfold segF; omega) e rfl with h | h <;> omega
theorem InvK.held_up (I : InvK N mo th K S T M) (hmo : mo < 4294967296) {k : Nat} (hk : k < 6) {p : Int × Int} (hp : p ∈ (th k).held) : (0 ≤ p.1 ∧ p.1 < N) ∧ M.sst (segF p.1) ≠ 0 ∧ stW (M.hdr p.1) = 1 ∧ gW (M.hdr p.1) = p.2 := by
  have h : (0 ≤ p.1 ∧ p.1 < N) := (I.G.ownN (z := p.1) (by
    have := cU_pos hk (ownU_held hp)
    show 0 < (ownK K).count p.1 + cU th p.1
    omega)).1
  obtain ⟨e1, e2, e3⟩ := I.held k hk p hp
  have h2 : stW (M.hdr p.1) = 1 := stW_hdr' e1 (by decide) (by decide) e2 (by omega)
  refine ⟨h, fun e => ?_, h2, gW_hdr' e1 (by decide) (by decide) e2 (by omega)⟩
  rcases I.none_ (by unfold segF; omega) (by unfold segF; omega) e rfl with h | h <;> omega
/-- Where none is under way. -/
theorem InvK.settled (I : InvK N mo th K S T M) (hno : ∀ k, k < 6 → (th k).op = .no) (h0 : K.ln = 0) :
    (∀ z, S.count z + (sum6 fun k => ((th k).held.map (·.1)).count z) + rz M z = if 0 ≤ z ∧ z < N then 1 else 0) ∧ ∀ g, 0 ≤ g → g < 3 → (M.sst g = 0 ∨ M.sst g = 1) ∧ M.spk g = nR M g ∧ (8 * g < N → M.sst g = 0 → M.spk g = 8) ∧ ∀ z, segF z = g → M.sst g = 1 → stW (M.hdr z) ≠ 3 := by
  have hkk : K.kept = [] := by
    rcases I.ok.2.2 with ⟨h, _⟩ | ⟨_, ⟨h, _⟩ | ⟨h, _⟩ | ⟨h, _⟩ | ⟨h, _⟩⟩ | ⟨h, _⟩
    · exact h
    · exact h
    · omega
    · omega
    · omega
    · exact h
  have b1 : ownK K = [] := by unfold ownK; rw [h0, hkk]; simp
  have b2 : parkK K = [] := by unfold parkK; rw [h0]; simp
  have b3 : ∀ g, tellK K g = 0 := fun g => by unfold tellK; rw [h0]; simp
  have n0 := hno 0 (by decide)
  have n1 := hno 1 (by decide)
  have n2 := hno 2 (by decide)
  have n3 := hno 3 (by decide)
  have n4 := hno 4 (by decide)
  have n5 := hno 5 (by decide)
  have cu : ∀ z, cU th z = sum6 fun k => ((th k).held.map (·.1)).count z := fun z => by simp [cU, ownU, sum6, n0, n1, n2, n3, n4, n5, ownL]
  have tu : ∀ g, tU th g = 0 := fun g => by simp [tU, sumZ, n0, n1, n2, n3, n4, n5, tellL]
  have pu : ∀ q, ¬ pU th q := fun q ⟨k, hk, h⟩ => by rw [hno k hk] at h; simp [parkL] at h
  refine ⟨fun z => ?_, fun g g0 g1 => ?_⟩
  · have := I.G.cnt z
    try dsimp only at this
    rw [b1, cu] at this
    simpa using this
  · have hd := I.G.quiet (fun h => by omega) g0 g1
    have hs := I.G.sum g g0 g1
    have hr := I.G.rng g g0 g1
    have hn := nR_le M g
    try dsimp only at hs
    rw [b3, tu] at hs
    have hst := I.G.st g g0 g1
    have e : M.spk g = nR M g := by omega
    refine ⟨by omega, e, fun gN h => ?_, fun z hz h h3 => ?_⟩
    · have hr := (I.G.none g g0 gN (.inl h)).1
      have k : ∀ i : Int, 0 ≤ i → i < 8 → rz M (8 * g + i) = 1 := fun i h0 h1 => hr _ (by unfold segF; omega)
      have k0 := k 0 (by decide) (by decide)
      rw [Int.add_zero] at k0
      rw [e]
      unfold nR
      rw [k0, k 1 (by decide) (by decide), k 2 (by decide) (by decide), k 3 (by decide) (by decide), k 4 (by decide) (by decide), k 5 (by decide) (by decide), k 6 (by decide) (by decide), k 7 (by decide) (by decide)]
      rfl
    · have z24 : 0 ≤ z ∧ z < 24 := by unfold segF at hz; omega
      rcases I.G.resp z z24.1 z24.2 (by rw [hz]; exact h) h3 with ⟨q, hq, _⟩ | ht
      · rcases hq with hq | hq
        · rw [b2] at hq; simp at hq
        · exact pu q hq
      · have := ht.1
        omega
/-- How it begins: so many segments mapped, the others not. -/
theorem InvK.start {up n : Nat} (hup : up ≤ n) (hn : n ≤ 3) (hN : N = 8 * (n : Int)) (stk : Stk M.ms S T) (hS : ∀ z, S.count z = if 0 ≤ z ∧ z < 8 * (up : Int) then 1 else 0) (hh0 : ∀ z, ¬ (8 * (up : Int) ≤ z ∧ z < N) → M.hdr z = 0) (hh1 : ∀ z, 8 * (up : Int) ≤ z → z < N → M.hdr z = headerW 3 0)
    (hs : ∀ g, 0 ≤ g → g < 3 → M.sst g = if g < (up : Int) then 1 else 0) (hp : ∀ g, 0 ≤ g → g < 3 → M.spk g = if g < (up : Int) then 0 else if 8 * g < N then 8 else 0) (ht : ∀ k, k < 6 → th k = ⟨[], .no⟩) (hK : K.ln = 0 ∧ K.kept = [] ∧ 0 ≤ K.seg ∧ K.seg < 3) (hmo : 0 ≤ mo) : InvK N mo th K S T M := by
  obtain ⟨k0, k1, k2⟩ := hK
  have b1 : ownK K = [] := by unfold ownK; rw [k0, k1]; simp
  have b2 : parkK K = [] := by unfold parkK; rw [k0]; simp
  have b3 : ∀ g, tellK K g = 0 := fun g => by unfold tellK; rw [k0]; simp
  have n0 := ht 0 (by decide)
  have n1 := ht 1 (by decide)
  have n2 := ht 2 (by decide)
  have n3 := ht 3 (by decide)
  have n4 := ht 4 (by decide)
  have n5 := ht 5 (by decide)
  have cu : ∀ z, cU th z = 0 := fun z => by simp [cU, ownU, sum6, n0, n1, n2, n3, n4, n5, ownL]
  have tu : ∀ g, tU th g = 0 := fun g => by simp [tU, sumZ, n0, n1, n2, n3, n4, n5, tellL]
  have pu : ∀ q, ¬ pU th q := fun q ⟨k, hk, h⟩ => by rw [ht k hk] at h; simp [parkL] at h
  have e0 : headerW 0 0 = 0 := by rw [header_form 0 0 (by decide) (by decide) (by decide) (by decide)]; rfl
  have y0 : ∀ z, ¬ (8 * (up : Int) ≤ z ∧ z < N) → stW (M.hdr z) = 0 := fun z h => stW_hdr' (g := 0) ((hh0 z h).trans e0.symm) (by decide) (by decide) (by decide) (by decide)
  have y3 : ∀ z, 8 * (up : Int) ≤ z → z < N → stW (M.hdr z) = 3 := fun z h h' => stW_hdr' (hh1 z h h') (by decide) (by decide) (by decide) (by decide)
  have r0 : ∀ z, ¬ (8 * (up : Int) ≤ z ∧ z < N) → rz M z = 0 := fun z h => by rw [rz_of (y0 z h)]; simp
  have r1 : ∀ z, 8 * (up : Int) ≤ z → z < N → rz M z = 1 := fun z h h' => by rw [rz_of (y3 z h h')]; simp
  subst hN
  refine ⟨⟨by omega, stk, fun z => ?_, fun z hz => ?_, fun z hz => ?_, fun g g0 g1 => ?_, fun g g0 g1 => ?_, fun g g0 g1 => ?_, fun g g0 g1 => ?_, fun h => by omega, fun g g0 g1 h => ?_, fun z z0 z1 h h3 => ?_⟩, ⟨k2, fun z hz => by rw [k1] at hz; simp at hz, .inl ⟨k1, .inl k0⟩⟩, fun k hk p hp => ?_, fun k hk => ?_⟩
  · show S.count z + ((ownK K).count z + cU th z) + rz M z = _
    rw [b1, cu, hS]
    by_cases h : 8 * (up : Int) ≤ z ∧ z < 8 * (n : Int)
    · rw [r1 z h.1 h.2, if_neg (by omega), if_pos (by omega)]; simp
    · rw [r0 z h]
      by_cases h2 : 0 ≤ z ∧ z < 8 * (up : Int)
      · rw [if_pos h2, if_pos (by omega)]; simp
      · rw [if_neg h2, if_neg (by omega)]; simp
  · by_cases h : 8 * (up : Int) ≤ z ∧ z < 8 * (n : Int)
    · exact ⟨3, 0, hh1 z h.1 h.2, by decide, by decide, by decide, hmo⟩
    · exact ⟨0, 0, (hh0 z h).trans e0.symm, by decide, by decide, by decide, hmo⟩
  · have := hS z
    have h1 := List.count_pos_iff.2 hz
    refine y0 z fun h => ?_
    rw [if_neg (by omega)] at this
    omega
  · rw [hp g g0 g1]; repeat' split
    all_goals omega
  · show (M.spk g - (nR M g : Int) - (tellK K g + tU th g)) % 18446744073709551616 = 0
    rw [b3, tu, hp g g0 g1]
    have k : ∀ (i : Int), segF i = g → rz M i = if g < (up : Int) then 0 else if 8 * g < 8 * (n : Int) then 1 else 0 := fun i hi => by
      unfold segF at hi
      by_cases h : g < (up : Int)
      · rw [if_pos h]; exact r0 _ (by omega)
      · rw [if_neg h]
        split
        · exact r1 _ (by omega) (by omega)
        · exact r0 _ (by omega)
    unfold nR
    rw [k _ (by unfold segF; omega), k _ (by unfold segF; omega), k _ (by unfold segF; omega), k _ (by unfold segF; omega), k _ (by unfold segF; omega), k _ (by unfold segF; omega), k _ (by unfold segF; omega), k _ (by unfold segF; omega)]
    by_cases h : g < (up : Int)
    · simp [h]
    · by_cases h' : 8 * g < 8 * (n : Int)
      · simp only [if_neg h, if_pos h']; decide
      · simp only [if_neg h, if_neg h']; decide
  · rw [hs g g0 g1]; split <;> omega
  · rw [hs g g0 g1]
    constructor
    · intro h; split at h <;> omega
    · intro h; omega
  · rcases h with h | h
    · rw [hs g g0 (by omega)] at h
      split at h
      · omega
      · refine ⟨fun z hz => ?_, fun q hq => ?_⟩
        · unfold segF at hz; exact r1 z (by omega) (by omega)
        · rcases hq with hq | hq
          · rw [b2] at hq; simp at hq
          · exact absurd hq (pu q)
    · omega
  · rw [hs _ (by unfold segF; omega) (by unfold segF; omega)] at h
    split at h
    · rename_i h4
      unfold segF at h4
      rw [y0 z (by omega)] at h3
      omega
    · omega
  · rw [ht k hk] at hp; cases hp
  · rw [ht k hk]; trivial
end
end Go.Proofs.YtmjcbjcnmgleaaaGreatDoor
namespace Go.Proofs.YtmjcbjcnmgleaaaGreatDoor
open Go.RowKit Go.Maps

theorem Ch.one {lk : Int → Int} : ∀ {s r : List Int}, Ch lk s → Ch lk r → topOf s = topOf r → s = r
  | [], [], _, _, _ => rfl
  | [], x :: r, _, h, e => by have := h.1; simp only [topOf] at e; omega
  | x :: s, [], h, _, e => by have := h.1; simp only [topOf] at e; omega
  | x :: s, y :: r, h, k, e => by
    simp only [topOf] at e
    subst e
    rw [Ch.one h.2 k.2 (h.1.2.2.symm.trans k.1.2.2)]
/-- A list's head and links tell it. -/
theorem Stk.one {M : MS} {s r : List Int} {T R : Int} (h : Stk M s T) (k : Stk M r R) : s = r := by
  refine Ch.one h.ch k.ch ?_
  have e := h.hd.symm.trans k.hd
  have h1 := topOf_in h.ch
  have h2 := topOf_in k.ch
  rw [← slot_head (topOf s) T h1.1 h1.2, e, slot_head (topOf r) R h2.1 h2.2]
def RQ (M : MA) (o : PO) : Nat := if o.ln = 12 then (if M.spk (segF o.sl) = o.n then 1 else 3) else if o.ln = 11 then 2 else remP M o
/-- Will its slot come back to the list, if nobody else steps? -/
def wQ (M : MA) (o : PO) : Nat := if o.ln = 9 ∨ o.ln = 10 ∨ (o.ln ≤ 8 ∧ M.sst (segF o.sl) = 1) then 1 else 0
theorem RQ_le (M : MA) (o : PO) : RQ M o ≤ 14 := by
  have := remP_le M o
  unfold RQ
  repeat' split
  all_goals omega
theorem wQ_le (M : MA) (o : PO) : wQ M o ≤ 1 := by unfold wQ; split <;> omega
section
variable {S S' : List Int} {T T' : Int} {M : MA} {N mo : Int}
theorem park_rem (stk : Stk M.ms S T) (hT : T + 1 < 1000000) {o : PO} (ok : PkG M S T mo o) (hnS : ∀ z ∈ ownQ o, z ∉ S) (stk' : Stk (parkF o M).2.ms S' T') :
    ((parkF o M).1.ln ≠ 0 ∧ S' = S ∧ RQ (parkF o M).2 (parkF o M).1 + 1 ≤ RQ M o ∧ wQ (parkF o M).2 (parkF o M).1 ≤ wQ M o) ∨ ((parkF o M).1.ln = 0 ∧ 1 ≤ RQ M o ∧ (S' = S ∨ (S' = o.sl :: S ∧ wQ M o = 1))) := by
  obtain ⟨ln, sl, w, nn, psh, st⟩ := o
  obtain ⟨hin, hp, hto, hl⟩ := ok
  simp only at hin hp hto hl hnS
  have hpp : ln ≠ 10 → psh = ⟨1, 0, sl⟩ := fun h => hp.elim id fun h' => absurd h' h
  have hl : ln = 1 ∨ ln = 2 ∨ (3 ≤ ln ∧ ln ≤ 9) ∨ ln = 11 ∨ ln = 12 ∨ (ln = 10 ∧ OpOk 24 M.ms S T (.push psh)) := by
    rcases hl with ⟨h, _⟩ | ⟨_, ⟨h, _⟩ | h | h | h | ⟨h, _, h'⟩⟩
    · exact .inl h
    · exact .inr (.inl h)
    · exact .inr (.inr (.inl h))
    · exact .inr (.inr (.inr (.inl h)))
    · exact .inr (.inr (.inr (.inr (.inl h))))
    · exact .inr (.inr (.inr (.inr (.inr ⟨h, h'⟩))))
  have on : ∀ (l' : Int) (w' n' : Int) (st' : Bool) (M' : MA), parkF ⟨ln, sl, w, nn, psh, st⟩ M = (⟨l', sl, w', n', psh, st'⟩, M') → M'.ms = M.ms → l' ≠ 0 → RQ M' ⟨l', sl, w', n', psh, st'⟩ + 1 ≤ RQ M ⟨ln, sl, w, nn, psh, st⟩ → wQ M' ⟨l', sl, w', n', psh, st'⟩ ≤ wQ M ⟨ln, sl, w, nn, psh, st⟩ →
      ((parkF ⟨ln, sl, w, nn, psh, st⟩ M).1.ln ≠ 0 ∧ S' = S ∧ RQ (parkF ⟨ln, sl, w, nn, psh, st⟩ M).2 (parkF ⟨ln, sl, w, nn, psh, st⟩ M).1 + 1 ≤ RQ M ⟨ln, sl, w, nn, psh, st⟩ ∧ wQ (parkF ⟨ln, sl, w, nn, psh, st⟩ M).2 (parkF ⟨ln, sl, w, nn, psh, st⟩ M).1 ≤ wQ M ⟨ln, sl, w, nn, psh, st⟩) ∨ ((parkF ⟨ln, sl, w, nn, psh, st⟩ M).1.ln = 0 ∧ 1 ≤ RQ M ⟨ln, sl, w, nn, psh, st⟩ ∧ (S' = S ∨ (S' = sl :: S ∧ wQ M ⟨ln, sl, w, nn, psh, st⟩ = 1))) := by
    intro l' w' n' st' M' e hms h0 h1 h2
    rw [e] at stk' ⊢
    dsimp only at stk' ⊢
    rw [hms] at stk'
    exact .inl ⟨h0, stk'.one stk, h1, h2⟩
  have off : ∀ (w' n' : Int) (st' : Bool) (M' : MA), parkF ⟨ln, sl, w, nn, psh, st⟩ M = (⟨0, sl, w', n', psh, st'⟩, M') → M'.ms = M.ms → 1 ≤ RQ M ⟨ln, sl, w, nn, psh, st⟩ →
      ((parkF ⟨ln, sl, w, nn, psh, st⟩ M).1.ln ≠ 0 ∧ S' = S ∧ RQ (parkF ⟨ln, sl, w, nn, psh, st⟩ M).2 (parkF ⟨ln, sl, w, nn, psh, st⟩ M).1 + 1 ≤ RQ M ⟨ln, sl, w, nn, psh, st⟩ ∧ wQ (parkF ⟨ln, sl, w, nn, psh, st⟩ M).2 (parkF ⟨ln, sl, w, nn, psh, st⟩ M).1 ≤ wQ M ⟨ln, sl, w, nn, psh, st⟩) ∨ ((parkF ⟨ln, sl, w, nn, psh, st⟩ M).1.ln = 0 ∧ 1 ≤ RQ M ⟨ln, sl, w, nn, psh, st⟩ ∧ (S' = S ∨ (S' = sl :: S ∧ wQ M ⟨ln, sl, w, nn, psh, st⟩ = 1))) := by
    intro w' n' st' M' e hms h1
    rw [e] at stk' ⊢
    dsimp only at stk' ⊢
    rw [hms] at stk'
    exact .inr ⟨rfl, h1, .inl (stk'.one stk)⟩
  rcases hl with rfl | rfl | ⟨l0, l1⟩ | rfl | rfl | ⟨rfl, ho⟩
  · exact on 2 (M.hdr sl) nn st M (by simp [parkF]) rfl (by decide) (by simp [RQ, remP]; split <;> omega) (by simp [wQ])
  · exact on 3 w nn st (M.setH sl (headerW 3 (gW w))) (by simp [parkF]) rfl (by decide) (by simp [RQ, remP, MA.setH]; split <;> omega) (by simp [wQ, MA.setH])
  · obtain rfl | rfl | rfl | rfl | rfl | rfl | rfl : ln = 3 ∨ ln = 4 ∨ ln = 5 ∨ ln = 6 ∨ ln = 7 ∨ ln = 8 ∨ ln = 9 := by omega
    · exact on 4 w (M.spk (segF sl)) st M (by simp [parkF]) rfl (by decide) (by simp [RQ, remP]; split <;> omega) (by simp [wQ])
    · by_cases hc : M.spk (segF sl) = nn
      · exact on 5 w nn st (M.setP (segF sl) (up64 nn)) (by simp [parkF, hc]) rfl (by decide) (by simp [RQ, remP, hc, MA.setP]; split <;> omega) (by simp [wQ, MA.setP])
      · exact on 3 w nn st M (by simp [parkF, hc]) rfl (by decide) (by simp [RQ, remP, hc]; split <;> omega) (by simp [wQ])
    · by_cases hc : M.sst (segF sl) = 1
      · exact on 6 w nn st M (by simp [parkF, hc]) rfl (by decide) (by simp [RQ, remP, hc]) (by simp [wQ])
      · exact off w nn true M (by simp [parkF, hc]) rfl (by simp [RQ, remP, hc])
    · exact on 7 w (M.spk (segF sl)) st M (by simp [parkF]) rfl (by decide) (by simp [RQ, remP]; split <;> omega) (by simp [wQ])
    · by_cases hc : M.spk (segF sl) = nn
      · exact on 8 w nn st (M.setP (segF sl) (down64 nn)) (by simp [parkF, hc]) rfl (by decide) (by simp [RQ, remP, hc, MA.setP]; split <;> omega) (by simp [wQ, MA.setP])
      · exact on 6 w nn st M (by simp [parkF, hc]) rfl (by decide) (by simp [RQ, remP, hc]; split <;> omega) (by simp [wQ])
    · by_cases hc : M.sst (segF sl) = 1
      · exact on 9 w nn st M (by simp [parkF, hc]) rfl (by decide) (by simp [RQ, remP, hc]) (by simp [wQ, hc])
      · exact on 3 w nn st M (by simp [parkF, hc]) rfl (by decide) (by simp [RQ, remP, hc]) (by simp [wQ, hc])
    · by_cases hc : M.hdr sl = headerW 3 (gW w)
      · have := hpp (by decide)
        exact on 10 w nn st (M.setH sl (headerW 0 (gW w))) (by simp [parkF, hc]) rfl (by decide) (by simp [RQ, remP, remF, this]) (by simp [wQ])
      · exact on 11 w nn st M (by simp [parkF, hc]) rfl (by decide) (by simp [RQ, remP]) (by simp [wQ])
  · exact on 12 w (M.spk (segF sl)) st M (by simp [parkF]) rfl (by decide) (by simp [RQ]) (by simp [wQ])
  · by_cases hc : M.spk (segF sl) = nn
    · exact off w nn st (M.setP (segF sl) (up64 nn)) (by simp [parkF, hc]) rfl (by simp [RQ, hc])
    · exact on 11 w nn st M (by simp [parkF, hc]) rfl (by decide) (by simp [RQ, hc]) (by simp [wQ])
  · obtain ⟨S2, T2, h1, h2, h3, h4, h5, h6⟩ := pushA_step stk (n := 24) (by decide) hT (o := psh) (by rw [hto]; exact hnS sl (by simp [ownQ])) ho
    have e : parkF ⟨10, sl, w, nn, psh, st⟩ M = (⟨if (pushF psh M.ms).1.nx = 0 then 0 else 10, sl, w, nn, (pushF psh M.ms).1, st⟩, { M with ms := (pushF psh M.ms).2 }) := by simp [parkF]
    rw [e] at stk' ⊢
    dsimp only at stk' ⊢
    obtain rfl := stk'.one h1
    rw [hto] at h6
    rcases h6 with ⟨k1, k2, k3, k4⟩ | ⟨k1, k2, k3⟩
    · rw [if_neg k1]
      exact .inl ⟨by decide, k2, by simpa [RQ, remP] using k4, by simp [wQ]⟩
    · rw [if_pos k1]
      exact .inr ⟨rfl, by simpa [RQ, remP] using k3, .inr ⟨k2, by simp [wQ]⟩⟩
/-- Of what a thread has under way, the list having that many slots. -/
def remG (M : MA) (l : Nat) : AO → Nat
  | .no => 0
  | .al o => if o.ln = 1 then 20 * l + remF M.ms (.pop o.pop) else if o.ln = 2 then 20 * l + 20 else if o.ln = 3 then 20 * (l + wQ M o.pk) + 6 + RQ M o.pk else if o.ln = 4 then 4 else if o.ln = 5 then 3 else if o.ln = 6 then 2 else 1
  | .fr o => if o.ln = 1 then 33 else if o.ln = 2 then 32 else if o.ln = 3 then 2 else if o.ln = 4 then (if M.spk (segF o.sl) = o.n then 1 else 3) else if o.ln = 5 then 31 else if o.ln = 6 then 6 + RQ M o.pk else remF M.ms (.push o.psh)
theorem remG_le (M : MA) (l : Nat) (op : AO) : remG M l op ≤ 20 * l + 50 := by
  cases op with
  | no => simp [remG]
  | al o =>
    have h1 := remF_le5 M.ms (.pop o.pop)
    have h2 := RQ_le M o.pk
    have h3 := wQ_le M o.pk
    simp only [remG]
    repeat' split
    all_goals omega
  | fr o =>
    have h1 := remF_le5 M.ms (.push o.psh)
    have h2 := RQ_le M o.pk
    simp only [remG]
    repeat' split
    all_goals omega
theorem al_rem (stk : Stk M.ms S T) (hT : T + 1 < 1000000) {o : AlO} (ok : AlG M S T mo o) (hnS : ∀ z ∈ ownL (.al o), z ∉ S) (stk' : Stk (alF o M).2.ms S' T') : stepAl o M = .no ∨ remG (alF o M).2 S'.length (stepAl o M) + 1 ≤ remG M S.length (.al o) := by
  obtain ⟨ln, pop, sl, w, pk, got⟩ := o
  obtain ⟨hgo, hl⟩ := ok
  simp only at hgo hl
  subst hgo
  have on : ∀ (l' w' : Int) (pk' : PO), alF ⟨ln, pop, sl, w, pk, false⟩ M = (⟨l', pop, sl, w', pk', false⟩, M) → l' ≠ 0 → remG M S.length (.al ⟨l', pop, sl, w', pk', false⟩) + 1 ≤ remG M S.length (.al ⟨ln, pop, sl, w, pk, false⟩) →
      stepAl ⟨ln, pop, sl, w, pk, false⟩ M = .no ∨ remG (alF ⟨ln, pop, sl, w, pk, false⟩ M).2 S'.length (stepAl ⟨ln, pop, sl, w, pk, false⟩ M) + 1 ≤ remG M S.length (.al ⟨ln, pop, sl, w, pk, false⟩) := by
    intro l' w' pk' e h0 h1
    have es : stepAl ⟨ln, pop, sl, w, pk, false⟩ M = .al ⟨l', pop, sl, w', pk', false⟩ := by simp [stepAl, e, h0]
    rw [e] at stk'
    obtain rfl := stk'.one stk
    rw [es, e]
    exact .inr h1
  rcases hl with ⟨rfl, ho⟩ | ⟨hin, ⟨hl, hh⟩ | ⟨rfl, hps, hpl, hpk⟩ | ⟨rfl, hh, rfl⟩⟩
  · obtain ⟨S2, T2, h1, h2, h3, h4, h5, h6⟩ := popA_step (n := 24) stk hT ho (-1)
    have e2 : (alF ⟨1, pop, sl, w, pk, false⟩ M).2 = { M with ms := (popF pop M.ms).2 } := by simp [alF]
    rw [e2] at stk'
    obtain rfl := stk'.one h1
    rcases h6 with ⟨k1, k2, k3, k4⟩ | ⟨k1, k2, k3, k4⟩ | ⟨k1, k2, k3, k4⟩
    · have e : alF ⟨1, pop, sl, w, pk, false⟩ M = (⟨1, (popF pop M.ms).1, sl, w, pk, false⟩, { M with ms := (popF pop M.ms).2 }) := by simp [alF, k1]
      have es : stepAl ⟨1, pop, sl, w, pk, false⟩ M = .al ⟨1, (popF pop M.ms).1, sl, w, pk, false⟩ := by simp [stepAl, e]
      rw [es, e2, k2]
      exact .inr (by simp [remG]; omega)
    · have e : alF ⟨1, pop, sl, w, pk, false⟩ M = (⟨0, (popF pop M.ms).1, sl, w, pk, false⟩, { M with ms := (popF pop M.ms).2 }) := by simp [alF, k1, k2]
      exact .inl (by simp [stepAl, e])
    · have hw : ¬ wSlot (popF pop M.ms).1.h < 0 := by omega
      have e : alF ⟨1, pop, sl, w, pk, false⟩ M = (⟨2, (popF pop M.ms).1, wSlot (popF pop M.ms).1.h, w, pk, false⟩, { M with ms := (popF pop M.ms).2 }) := by simp [alF, k1, hw]
      have es : stepAl ⟨1, pop, sl, w, pk, false⟩ M = .al ⟨2, (popF pop M.ms).1, wSlot (popF pop M.ms).1.h, w, pk, false⟩ := by simp [stepAl, e]
      rw [es, e2]
      have hlen : S.length = S'.length + 1 := by rw [k3]; simp
      refine .inr ?_
      simp only [remG]
      simp
      omega
  · rcases hl with rfl | rfl | rfl | rfl
    · by_cases hc : M.sst (segF sl) = 2
      · exact on 3 w (newPark sl) (by simp [alF, hc]) (by decide) (by simp [remG, RQ, remP, wQ, newPark, hc])
      · exact on 4 w pk (by simp [alF, hc]) (by decide) (by simp [remG])
    · exact on 5 w pk (by simp [alF]) (by decide) (by simp [remG])
    · exact on 6 w pk (by simp [alF]) (by decide) (by simp [remG])
    · exact on 7 (M.hdr sl) pk (by simp [alF]) (by decide) (by simp [remG])
  · have e2 : (alF ⟨3, pop, sl, w, pk, false⟩ M).2 = (parkF pk M).2 := by simp [alF]
    rw [e2] at stk'
    have o1 : ownL (.al ⟨3, pop, sl, w, pk, false⟩) = ownQ pk := by simp [ownL]
    rcases park_rem stk hT hpk (fun z hz => hnS z (by rw [o1]; exact hz)) stk' with ⟨h0, rfl, h1, h2⟩ | ⟨h0, h1, h2⟩
    · have e : alF ⟨3, pop, sl, w, pk, false⟩ M = (⟨3, pop, sl, w, (parkF pk M).1, false⟩, (parkF pk M).2) := by simp [alF, h0]
      have es : stepAl ⟨3, pop, sl, w, pk, false⟩ M = .al ⟨3, pop, sl, w, (parkF pk M).1, false⟩ := by simp [stepAl, e]
      rw [es, e2]
      refine .inr ?_
      simp only [remG]
      simp
      omega
    · have e : alF ⟨3, pop, sl, w, pk, false⟩ M = (⟨1, ⟨1, 0, 0⟩, sl, w, (parkF pk M).1, false⟩, (parkF pk M).2) := by simp [alF, h0]
      have es : stepAl ⟨3, pop, sl, w, pk, false⟩ M = .al ⟨1, ⟨1, 0, 0⟩, sl, w, (parkF pk M).1, false⟩ := by simp [stepAl, e]
      rw [es, e2]
      refine .inr ?_
      simp only [remG, remF]
      simp
      rcases h2 with rfl | ⟨rfl, h2⟩
      · omega
      · simp only [List.length_cons]; omega
  · have e : alF ⟨7, pop, sl, M.hdr sl, pk, false⟩ M = (⟨0, pop, sl, M.hdr sl, pk, true⟩, M.setH sl (headerW 1 (gW (M.hdr sl)))) := by simp [alF]
    exact .inl (by simp [stepAl, e])
theorem fr_rem (stk : Stk M.ms S T) (hT : T + 1 < 1000000) {o : FrO} (ok : FrG M S T mo o) (hnS : ∀ z ∈ ownL (.fr o), z ∉ S) (stk' : Stk (frF o M).2.ms S' T') : stepFr o M = .no ∨ remG (frF o M).2 S'.length (stepFr o M) + 1 ≤ remG M S.length (.fr o) := by
  obtain ⟨ln, sl, mo', w, nn, pk, psh⟩ := o
  obtain ⟨rfl, hin, hl⟩ := ok
  simp only at hin hl
  have on : ∀ (l' w' n' : Int) (pk' : PO) (psh' : OS) (M' : MA), frF ⟨ln, sl, mo', w, nn, pk, psh⟩ M = (⟨l', sl, mo', w', n', pk', psh'⟩, M') → l' ≠ 0 → remG M' S'.length (.fr ⟨l', sl, mo', w', n', pk', psh'⟩) + 1 ≤ remG M S.length (.fr ⟨ln, sl, mo', w, nn, pk, psh⟩) →
      stepFr ⟨ln, sl, mo', w, nn, pk, psh⟩ M = .no ∨ remG (frF ⟨ln, sl, mo', w, nn, pk, psh⟩ M).2 S'.length (stepFr ⟨ln, sl, mo', w, nn, pk, psh⟩ M) + 1 ≤ remG M S.length (.fr ⟨ln, sl, mo', w, nn, pk, psh⟩) := by
    intro l' w' n' pk' psh' M' e h0 h1
    have es : stepFr ⟨ln, sl, mo', w, nn, pk, psh⟩ M = .fr ⟨l', sl, mo', w', n', pk', psh'⟩ := by simp [stepFr, e, h0]
    rw [es, e]
    exact .inr h1
  rcases hl with ⟨rfl, hh⟩ | ⟨rfl, hh, rfl⟩ | rfl | rfl | ⟨rfl, hh⟩ | ⟨rfl, hps, hpl, hpk⟩ | ⟨rfl, hh, hto, ho⟩
  · exact on 2 (M.hdr sl) nn pk psh M (by simp [frF]) (by decide) (by simp [remG])
  · by_cases hc : mo' ≤ gW (M.hdr sl)
    · exact on 3 (M.hdr sl) nn pk psh (M.setH sl (headerW 4 (gW (M.hdr sl)))) (by simp [frF, hc]) (by decide) (by simp [remG])
    · exact on 5 (M.hdr sl) nn pk psh (M.setH sl (headerW 0 (gW (M.hdr sl) + 1))) (by simp [frF, hc]) (by decide) (by simp [remG])
  · exact on 4 w (M.spk (segF sl)) pk psh M (by simp [frF]) (by decide) (by simp [remG])
  · by_cases hc : M.spk (segF sl) = nn
    · exact .inl (by simp [stepFr, frF, hc])
    · exact on 3 w nn pk psh M (by simp [frF, hc]) (by decide) (by simp [remG, hc])
  · by_cases hc : M.sst (segF sl) = 2
    · exact on 6 w nn (newPark sl) psh M (by simp [frF, hc]) (by decide) (by simp [remG, RQ, remP, newPark, hc])
    · exact on 7 w nn pk ⟨1, 0, sl⟩ M (by simp [frF, hc]) (by decide) (by simp [remG, remF])
  · have e2 : (frF ⟨6, sl, mo', w, nn, pk, psh⟩ M).2 = (parkF pk M).2 := by simp [frF]
    rw [e2] at stk'
    have o1 : ownL (.fr ⟨6, sl, mo', w, nn, pk, psh⟩) = ownQ pk := by simp [fr_own]
    rcases park_rem stk hT hpk (fun z hz => hnS z (by rw [o1]; exact hz)) stk' with ⟨h0, h2, h1, _⟩ | ⟨h0, h1, h2⟩
    · exact on 6 w nn (parkF pk M).1 psh (parkF pk M).2 (by simp [frF, h0]) (by decide) (by simp only [remG]; simp; omega)
    · exact .inl (by simp [stepFr, frF, h0])
  · have o1 : ownL (.fr ⟨7, sl, mo', w, nn, pk, psh⟩) = [sl] := by simp [fr_own]
    obtain ⟨S2, T2, h1, h2, h3, h4, h5, h6⟩ := pushA_step stk (n := 24) (by decide) hT (o := psh) (by rw [hto]; exact hnS sl (by rw [o1]; simp)) ho
    rcases h6 with ⟨k1, k2, k3, k4⟩ | ⟨k1, k2, k3⟩
    · exact on 7 w nn pk (pushF psh M.ms).1 { M with ms := (pushF psh M.ms).2 } (by simp [frF, k1]) (by decide) (by simp only [remG]; simp; omega)
    · exact .inl (by simp [stepFr, frF, k1])
end
end Go.Proofs.YtmjcbjcnmgleaaaGreatDoor
namespace Go.Proofs.YtmjcbjcnmgleaaaGreatDoor
open Go.RowKit Go.Maps

def remT (M : MA) (K : KO) : Nat := 10 * (8 * K.seg + 7 - K.slot).toNat + (if K.ln = 11 then 10 else if K.ln = 12 then 9 else if K.ln = 13 then 8 else if K.ln = 14 then (if M.spk K.seg = K.w then 7 else 9) else 1 + remF M.ms (.push K.psh))
/-- Of the keeper, the list having that many slots. -/
def remK (M : MA) (l : Nat) (K : KO) : Nat :=
  if K.ln = 0 then 0 else if 11 ≤ K.ln then remT M K else if K.sh = false then (if K.ln = 1 then 83 else 82)
  else if K.ln = 1 then 86 + 400 * K.looks.toNat else if K.ln = 2 then 85 + 400 * K.looks.toNat else if K.ln = 3 then 84 + 400 * K.looks.toNat else if K.ln = 4 then 1 else if K.ln = 8 then 82
  else if K.ln = 5 then 86 + 400 * K.looks.toNat + 16 * l + 5 * K.kept.length + remF M.ms (.pop K.psh)
  else if K.ln = 6 then 90 + 400 * K.looks.toNat + 16 * (l + wQ M K.pk) + 5 * K.kept.length + RQ M K.pk
  else 86 + 400 * K.looks.toNat + 5 * (K.kept.length - 1) + remF M.ms (.push K.psh)
section
variable {S S' : List Int} {T T' : Int} {M M' : MA} {N mo : Int} {tR : Int → Int} {cR : Int → Nat} {PR : PO → Prop} {K K' : KO}
theorem next_rem {l : Nat} (h : K.slot < 8 * K.seg + 8) : K.next.ln = 0 ∨ remK M l K.next = 10 * (8 * K.seg + 7 - K.slot).toNat := by
  obtain ⟨sh, ln, seg, looks, slot, w, psh, pk, kept⟩ := K
  simp only at h
  unfold KO.next
  by_cases he : slot + 1 = 8 * seg + 8
  · rw [if_pos he]; exact .inl rfl
  · rw [if_neg he]
    refine .inr ?_
    simp [remK, remT]
    omega
theorem turn_rem (G : GK N mo cR PR tR K M S T) (ok : KG M S T mo K) (hT : T + 1 < 1000000) (hl : 11 ≤ K.ln) {l l' : Nat} : (turnF K M).1.ln = 0 ∨ remK (turnF K M).2 l' (turnF K M).1 + 1 ≤ remK M l K := by
  obtain ⟨sh, ln, seg, looks, slot, w, psh, pk, kept⟩ := K
  obtain ⟨hsg, hkz, hk⟩ := ok
  simp only at hl hsg hkz hk
  obtain ⟨rfl, hin, hk⟩ : kept = [] ∧ (8 * seg ≤ slot ∧ slot < 8 * seg + 8) ∧ (ln = 11 ∨ ln = 12 ∨ ln = 13 ∨ ln = 14 ∨ (ln = 15 ∧ psh.to = slot ∧ OpOk 24 M.ms S T (.push psh))) := by
    rcases hk with ⟨_, h⟩ | ⟨_, h⟩ | ⟨a, b, h⟩
    · omega
    · rcases h with ⟨_, h⟩ | ⟨h, _⟩ | ⟨h, _⟩ | ⟨h, _⟩ <;> omega
    · refine ⟨a, b, ?_⟩
      rcases h with h | ⟨h, _⟩ | ⟨h, _⟩ | ⟨h, _, h'⟩
      · exact .inl h
      · exact .inr (.inl h)
      · omega
      · exact .inr (.inr (.inr (.inr ⟨h, h'⟩)))
  have nx : ∀ (l'' w' : Int) (psh' : OS) (M' : MA), 10 * (8 * seg + 7 - slot).toNat + 1 ≤ remK M l ⟨sh, ln, seg, looks, slot, w, psh, pk, []⟩ → (KO.next ⟨sh, l'', seg, looks, slot, w', psh', pk, []⟩).ln = 0 ∨ remK M' l' (KO.next ⟨sh, l'', seg, looks, slot, w', psh', pk, []⟩) + 1 ≤ remK M l ⟨sh, ln, seg, looks, slot, w, psh, pk, []⟩ := by
    intro l'' w' psh' M' h
    rcases next_rem (M := M') (l := l') (K := ⟨sh, l'', seg, looks, slot, w', psh', pk, []⟩) hin.2 with h2 | h2
    · exact .inl h2
    · rw [h2]; exact .inr h
  rcases hk with rfl | rfl | rfl | rfl | ⟨rfl, hto, ho⟩
  · by_cases hc : stW (M.hdr slot) = 3
    · have e : turnF ⟨sh, 11, seg, looks, slot, w, psh, pk, []⟩ M = (⟨sh, 12, seg, looks, slot, M.hdr slot, psh, pk, []⟩, M) := by simp [turnF, hc]
      rw [e]; exact .inr (by simp [remK, remT])
    · have e : turnF ⟨sh, 11, seg, looks, slot, w, psh, pk, []⟩ M = (KO.next ⟨sh, 11, seg, looks, slot, M.hdr slot, psh, pk, []⟩, M) := by simp [turnF, hc]
      rw [e]; exact nx _ _ _ _ (by simp [remK, remT])
  · by_cases hc : M.hdr slot = w
    · have e : turnF ⟨sh, 12, seg, looks, slot, w, psh, pk, []⟩ M = (⟨sh, 13, seg, looks, slot, w, psh, pk, []⟩, M.setH slot (headerW 0 (gW w))) := by simp [turnF, hc]
      rw [e]; exact .inr (by simp [remK, remT])
    · have e : turnF ⟨sh, 12, seg, looks, slot, w, psh, pk, []⟩ M = (KO.next ⟨sh, 12, seg, looks, slot, w, psh, pk, []⟩, M) := by simp [turnF, hc]
      rw [e]; exact nx _ _ _ _ (by simp [remK, remT])
  · have e : turnF ⟨sh, 13, seg, looks, slot, w, psh, pk, []⟩ M = (⟨sh, 14, seg, looks, slot, M.spk seg, psh, pk, []⟩, M) := by simp [turnF]
    rw [e]; exact .inr (by simp [remK, remT])
  · by_cases hc : M.spk seg = w
    · have e : turnF ⟨sh, 14, seg, looks, slot, w, psh, pk, []⟩ M = (⟨sh, 15, seg, looks, slot, w, ⟨1, 0, slot⟩, pk, []⟩, M.setP seg (down64 w)) := by simp [turnF, hc]
      rw [e]; exact .inr (by simp [remK, remT, remF, hc])
    · have e : turnF ⟨sh, 14, seg, looks, slot, w, psh, pk, []⟩ M = (⟨sh, 13, seg, looks, slot, w, psh, pk, []⟩, M) := by simp [turnF, hc]
      rw [e]; exact .inr (by simp [remK, remT, hc])
  · have hS : slot ∉ S := (G.own24 (z := slot) (by simp [ownK] <;> omega)).2.1
    obtain ⟨S', T', h1, h2, h3, h4, h5, h6⟩ := pushA_step G.stk (n := 24) (by decide) hT (o := psh) (by rw [hto]; exact hS) ho
    rcases h6 with ⟨k1, k2, k3, k4⟩ | ⟨k1, k2, k3⟩
    · have e : turnF ⟨sh, 15, seg, looks, slot, w, psh, pk, []⟩ M = (⟨sh, 15, seg, looks, slot, w, (pushF psh M.ms).1, pk, []⟩, { M with ms := (pushF psh M.ms).2 }) := by simp [turnF, k1]
      rw [e]; exact .inr (by simp [remK, remT] <;> omega)
    · have e : turnF ⟨sh, 15, seg, looks, slot, w, psh, pk, []⟩ M = (KO.next ⟨sh, 15, seg, looks, slot, w, (pushF psh M.ms).1, pk, []⟩, { M with ms := (pushF psh M.ms).2 }) := by simp [turnF, k1]
      rw [e]; exact nx _ _ _ _ (by simp [remK, remT] <;> omega)
theorem seven_rem {l : Nat} {b : Nat} (hs : K.sh = true) (h : K.kept = [] → 85 + 400 * K.looks.toNat ≤ b) (h2 : K.kept ≠ [] → 90 + 400 * K.looks.toNat + 5 * (K.kept.length - 1) ≤ b) : K.seven.ln = 0 ∨ remK M l K.seven + 1 ≤ b := by
  obtain ⟨sh, ln, seg, looks, slot, w, psh, pk, kept⟩ := K
  simp only at hs h h2
  subst hs
  unfold KO.seven
  by_cases hk : kept = []
  · rw [if_pos hk]
    have := h hk
    exact .inr (by simp [remK] <;> omega)
  · rw [if_neg hk]
    have := h2 hk
    exact .inr (by simp [remK, remF] <;> omega)
theorem keeper_rem (G : GK N mo cR PR tR K M S T) (ok : KG M S T mo K) (hT : T + 1 < 1000000) (hlen : S.length ≤ 24) (h0 : K.ln ≠ 0) (stk' : Stk (kF K M).2.ms S' T') : (kF K M).1.ln = 0 ∨ remK (kF K M).2 S'.length (kF K M).1 + 1 ≤ remK M S.length K := by
  unfold kF at stk' ⊢
  by_cases h : 11 ≤ K.ln
  · rw [if_pos h]; exact turn_rem G ok hT h
  rw [if_neg h] at stk' ⊢
  have hkh : ∀ z ∈ K.kept, (0 ≤ z ∧ z < 24) ∧ z ∉ S := fun z hz => kept_hd G hz
  have hgo : ∀ z, 0 < (ownK K).count z → z ∉ S := fun z hz => (G.own24 (z := z) (by show 0 < (ownK K).count z + cR z; omega)).2.1
  have hdr := G.dr
  have stk := G.stk
  clear G
  obtain ⟨sh, ln, seg, looks, slot, w, psh, pk, kept⟩ := K
  obtain ⟨hsg, hkz, hk⟩ := ok
  simp only at h h0 hsg hkz hk hkh hdr
  cases sh with
  | false =>
    rw [if_pos rfl] at stk' ⊢
    have hl : ln = 1 ∨ ln = 2 := by
      rcases hk with ⟨_, h⟩ | ⟨h, _⟩ | ⟨_, _, h⟩
      · omega
      · cases h
      · rcases h with h | ⟨h, _⟩ | ⟨h, _⟩ | ⟨h, _⟩ <;> omega
    rcases hl with rfl | rfl
    · by_cases hc : M.sst seg = 0
      · exact .inr (by simp [growF, hc, remK])
      · exact .inl (by simp [growF, hc])
    · by_cases hc : M.sst seg = 0
      · exact .inr (by simp [growF, hc, remK, remT, KO.turn] <;> omega)
      · exact .inl (by simp [growF, hc])
  | true =>
    rw [if_neg (by simp)] at stk' ⊢
    have hl : ((ln = 1 ∨ ln = 2 ∨ ln = 3 ∨ ln = 4 ∨ ln = 8) ∧ kept = []) ∨ (ln = 5 ∧ OpOk 24 M.ms S T (.pop psh)) ∨ (ln = 6 ∧ pk.ln ≠ 0 ∧ PkG M S T mo pk) ∨ (ln = 7 ∧ kept ≠ [] ∧ psh.to = kept.getLastD 0 ∧ OpOk 24 M.ms S T (.push psh)) := by
      rcases hk with ⟨h', h⟩ | ⟨_, ⟨h', h⟩ | h | h | h⟩ | ⟨_, _, h⟩
      · exact .inl ⟨by omega, h'⟩
      · exact .inl ⟨by omega, h'⟩
      · exact .inr (.inl h)
      · exact .inr (.inr (.inl h))
      · exact .inr (.inr (.inr h))
      · rcases h with h | ⟨h, _⟩ | ⟨h, _⟩ | ⟨h, _⟩ <;> omega
    rcases hl with ⟨hl, rfl⟩ | ⟨rfl, ho⟩ | ⟨rfl, hp0, hpk⟩ | ⟨rfl, hne, hto, ho⟩
    · rcases hl with rfl | rfl | rfl | rfl | rfl
      · by_cases hc : M.sst seg = 1
        · exact .inr (by simp [shrinkF, hc, remK] <;> omega)
        · exact .inl (by simp [shrinkF, hc])
      · by_cases hc : M.sst seg = 1
        · exact .inr (by simp [shrinkF, hc, remK] <;> omega)
        · exact .inl (by simp [shrinkF, hc])
      · have e2 : (shrinkF ⟨true, 3, seg, looks, slot, w, psh, pk, []⟩ M).2 = M := by simp [shrinkF]
        rw [e2] at stk'
        obtain rfl := stk'.one stk
        by_cases hc : M.spk seg = 8
        · exact .inr (by simp [shrinkF, hc, remK] <;> omega)
        · by_cases h0 : looks ≤ 0
          · exact .inr (by simp [shrinkF, hc, h0, remK] <;> omega)
          · exact .inr (by simp [shrinkF, hc, h0, remK, remF] <;> omega)
      · by_cases hc : M.sst seg = 2
        · exact .inl (by simp [shrinkF, hc])
        · exact .inl (by simp [shrinkF, hc])
      · by_cases hc : M.sst seg = 2
        · exact .inr (by simp [shrinkF, hc, remK, remT, KO.turn] <;> omega)
        · exact .inl (by simp [shrinkF, hc])
    · obtain ⟨S2, T2, h1, h2, h3, h4, h5, h6⟩ := popA_step (n := 24) stk hT ho (-1)
      have e2 : (shrinkF ⟨true, 5, seg, looks, slot, w, psh, pk, kept⟩ M).2 = { M with ms := (popF psh M.ms).2 } := by simp [shrinkF]
      rw [e2] at stk' ⊢
      obtain rfl := stk'.one h1
      rcases h6 with ⟨k1, k2, k3, k4⟩ | ⟨k1, k2, k3, k4⟩ | ⟨k1, k2, k3, k4⟩
      · rw [k2]
        exact .inr (by simp [shrinkF, k1, remK] <;> omega)
      · have e : (shrinkF ⟨true, 5, seg, looks, slot, w, psh, pk, kept⟩ M).1 = KO.seven ⟨true, 5, seg, looks, slot, w, (popF psh M.ms).1, pk, kept⟩ := by simp [shrinkF, k1, k2]
        rw [e]
        refine seven_rem rfl (fun h => ?_) (fun h => ?_)
        · simp only at h
          simp [remK, h]; omega
        · have := List.length_pos_iff.2 h
          simp only at this
          simp [remK]; omega
      · have hw : ¬ wSlot (popF psh M.ms).1.h < 0 := by omega
        have e : (shrinkF ⟨true, 5, seg, looks, slot, w, psh, pk, kept⟩ M).1 = if segF (wSlot (popF psh M.ms).1.h) = seg then ⟨true, 6, seg, looks, slot, w, psh, newPark (wSlot (popF psh M.ms).1.h), kept⟩ else ⟨true, 5, seg, looks, slot, w, ⟨1, 0, 0⟩, pk, kept ++ [wSlot (popF psh M.ms).1.h]⟩ := by simp [shrinkF, k1, hw]
        rw [e]
        have hlen2 : S.length = S'.length + 1 := by rw [k3]; simp
        by_cases hg : segF (wSlot (popF psh M.ms).1.h) = seg
        · rw [if_pos hg]
          have hd : M.sst seg = 2 := (hdr seg hsg.1 hsg.2).2 ⟨rfl, rfl, by decide, by decide⟩
          exact .inr (by simp [remK, RQ, remP, wQ, newPark, hg, hd] <;> omega)
        · rw [if_neg hg]
          exact .inr (by simp [remK, remF] <;> omega)
    · have e2 : (shrinkF ⟨true, 6, seg, looks, slot, w, psh, pk, kept⟩ M).2 = (parkF pk M).2 := by simp [shrinkF]
      rw [e2] at stk' ⊢
      rcases park_rem stk hT hpk (fun z hz => hgo z (by
        unfold ownK
        have := List.count_pos_iff.2 hz
        simp [List.count_append]
        omega)) stk' with ⟨h0, rfl, h1, h2⟩ | ⟨h0, h1, h2⟩
      · exact .inr (by simp [shrinkF, h0, remK] <;> omega)
      · have e : (shrinkF ⟨true, 6, seg, looks, slot, w, psh, pk, kept⟩ M).1 = ⟨true, 5, seg, looks, slot, w, ⟨1, 0, 0⟩, (parkF pk M).1, kept⟩ := by simp [shrinkF, h0]
        rw [e]
        refine .inr ?_
        simp only [remK, remF]
        simp
        rcases h2 with rfl | ⟨rfl, h2⟩
        · omega
        · simp only [List.length_cons]; omega
    · obtain ⟨hla, _⟩ := last_of hne
      obtain ⟨S2, T2, h1, h2, h3, h4, h5, h6⟩ := pushA_step stk (n := 24) (by decide) hT (o := psh) (by rw [hto]; exact (hkh _ hla).2) ho
      have hpos := List.length_pos_iff.2 hne
      rcases h6 with ⟨k1, k2, k3, k4⟩ | ⟨k1, k2, k3⟩
      · exact .inr (by simp [shrinkF, k1, remK] <;> omega)
      · have e : (shrinkF ⟨true, 7, seg, looks, slot, w, psh, pk, kept⟩ M).1 = KO.seven ⟨true, 7, seg, looks, slot, w, psh, pk, kept.dropLast⟩ := by simp [shrinkF, k1]
        rw [e]
        refine seven_rem rfl (fun h => ?_) (fun h => ?_)
        · simp [remK]; omega
        · have := List.length_pos_iff.2 h
          simp only [List.length_dropLast] at this
          simp [remK]; omega
theorem kF_looks (K : KO) (M : MA) : (kF K M).1.looks ≤ K.looks := by
  have hn : ∀ K : KO, K.next.looks = K.looks := fun K => by unfold KO.next; split <;> rfl
  have hs : ∀ K : KO, K.seven.looks = K.looks := fun K => by unfold KO.seven; split <;> rfl
  have ht : ∀ K : KO, K.turn.looks = K.looks := fun K => rfl
  unfold kF
  split
  · unfold turnF
    repeat' split
    all_goals first | exact Int.le_refl _ | exact Int.le_of_eq (hn _)
  · split
    · unfold growF
      repeat' split
      all_goals first | exact Int.le_refl _ | exact Int.le_of_eq (ht _)
    · unfold shrinkF
      repeat' split
      all_goals first | exact Int.le_refl _ | exact Int.le_of_eq (ht _) | exact Int.le_of_eq (hs _) | (show K.looks - 1 ≤ K.looks; omega)
end
section
variable {N mo : Int} {th : Nat → TA} {S S' : List Int} {T T' : Int} {M M' : MA} {K K' : KO}
theorem InvK.lenS (I : InvK N mo th K S T M) : S.length ≤ 24 := fit_le 24 S I.G.stk.nd fun z hz => by have := I.G.s24 hz; omega
theorem InvK.lenK (I : InvK N mo th K S T M) : K.kept.length ≤ 24 := by
  refine fit_le 24 K.kept (List.nodup_iff_count.2 fun z => ?_) fun z hz => by have := (kept_hd I.G hz).1; omega
  have h := I.G.cnt z
  have : K.kept.count z ≤ (ownK K).count z := by unfold ownK; simp only [List.count_append]; omega
  split at h
  · omega
  · omega
theorem InvK.rem_le (I : InvK N mo th K S T M) (op : AO) : remG M S.length op ≤ 530 := by
  have h1 := remG_le M S.length op
  have h2 := I.lenS
  omega
theorem InvK.remK_le (I : InvK N mo th K S T M) {n : Nat} (hn : K.looks ≤ (n : Int)) : remK M S.length K ≤ 700 + 400 * n := by
  have h1 := I.lenS
  have h2 := I.lenK
  have h3 := remF_le5 M.ms (.pop K.psh)
  have h4 := remF_le5 M.ms (.push K.psh)
  have h5 := RQ_le M K.pk
  have h6 := wQ_le M K.pk
  have h7 : K.looks.toNat ≤ n := by omega
  have h8 := I.ok.2.2
  unfold remK remT
  repeat' split
  all_goals first | omega | (rcases h8 with ⟨_, h⟩ | ⟨_, ⟨_, h⟩ | ⟨h, _⟩ | ⟨h, _⟩ | ⟨h, _⟩⟩ | ⟨_, h, _⟩ <;> omega)
/-- A step of a thread, alone. -/
theorem InvK.step_rem (I : InvK N mo th K S T M) (hmo : mo < 4294967296) (hT : T + 1 < 1000000) {k : Nat} (hk : k < 6) (b : Bool) (I' : InvK N mo (stepTA th k b mo M).1 K S' T' (stepTA th k b mo M).2) :
    ((stepTA th k b mo M).1 k).op = .no ∨ remG (stepTA th k b mo M).2 S'.length ((stepTA th k b mo M).1 k).op + 1 ≤ remG M S.length (beginA (th k) b mo).op := by
  obtain ⟨I1, hop⟩ := I.begin hmo hk b
  have hnS : ∀ z ∈ ownL (beginA (th k) b mo).op, z ∉ S := fun z hz => (I1.G.own24 (z := z) (by
    have := cU_pos (th := updA th k (beginA (th k) b mo)) hk (z := z) (by rw [updA_same]; exact ownU_op hz)
    show 0 < (ownK K).count z + cU _ z
    omega)).2.1
  have ok := I1.ops k hk
  rw [updA_same] at ok
  have stk' := I'.G.stk
  simp only [stepTA, updA_same, goA_eq] at stk' ⊢
  cases e : (beginA (th k) b mo).op with
  | no => exact absurd e hop
  | al o => rw [e] at ok hnS stk'; exact al_rem I.G.stk hT ok hnS stk'
  | fr o => rw [e] at ok hnS stk'; exact fr_rem I.G.stk hT ok hnS stk'
theorem InvK.keep_rem (I : InvK N mo th K S T M) (hT : T + 1 < 1000000) (h0 : K.ln ≠ 0) (I' : InvK N mo th (kF K M).1 S' T' (kF K M).2) : (kF K M).1.ln = 0 ∨ remK (kF K M).2 S'.length (kF K M).1 + 1 ≤ remK M S.length K :=
  keeper_rem I.G I.ok hT I.lenS h0 I'.G.stk
end
end Go.Proofs.YtmjcbjcnmgleaaaGreatDoor
