/-
  GrowsWhole's actors and its keeper between two steps, each step, the look at what is sound; condition: the tables as laid, all lies as it says.
-/
import Derived.Test.YtmjcbjcnmgleaaaGreatDoorAE2
import Derived.Test.YtmjcbjcnmgleaaaGreatDoorAE3
import Derived.Test.YtmjcbjcnmgleaaaGreatDoorAC4
import Derived.Test.YtmjcbjcnmgleaaaGreatDoorAC5
import Derived.Test.YtmjcbjcnmgleaaaGreatDoorGP22
namespace Go.Proofs.YtmjcbjcnmgleaaaGreatDoor
open Go.RowKit Go.Maps

theorem beginA_len {mo : Int} (t : TA) (b : Bool) : (beginA t b mo).held.length ≤ t.held.length := by
  unfold beginA
  cases t.op with
  | no =>
    simp only
    split
    · simp
    · simp
  | al o => exact Nat.le_refl _
  | fr o => exact Nat.le_refl _
section
variable {N mo : Int} {th : Nat → TA} {K : KO} {S : List Int} {T : Int} {A : MA}
theorem InvK.cU_one (I : InvK N mo th K S T A) (z : Int) : cU th z ≤ 1 ∧ (0 < cU th z → 0 ≤ z ∧ z < 24) := by
  have h := I.G.cnt z
  have hn := I.G.nn
  refine ⟨by split at h <;> omega, fun h0 => ?_⟩
  split at h
  · omega
  · omega
theorem held_cU {k : Nat} (hk : k < 6) (z : Int) : ((th k).held.map (·.1)).count z ≤ cU th z := by
  have h1 := sum6_ge (fun k => (ownU (th k)).count z) hk
  have h2 : ((th k).held.map (·.1)).count z ≤ (ownU (th k)).count z := by unfold ownU; rw [List.count_append]; omega
  exact Nat.le_trans h2 h1
theorem InvK.held_len (I : InvK N mo th K S T A) {k : Nat} (hk : k < 6) : (th k).held.length ≤ 24 := by
  have := fit_le 24 ((th k).held.map (·.1)) (nodup_one fun z => Nat.le_trans (held_cU hk z) (I.cU_one z).1) fun z hz => by
    have h1 := List.count_pos_iff.2 hz
    have h2 := held_cU (th := th) hk z
    have h3 := (I.cU_one z).2 (by omega)
    omega
  simpa using this
theorem InvK.helds_len (I : InvK N mo th K S T A) {nt : Nat} (hn : nt ≤ 6) (hz : ∀ k, nt ≤ k → k < 6 → (th k).held = []) : (heldsN th nt).length ≤ 24 := by
  have key : ∀ z, ((heldsN th nt).map (·.1)).count z ≤ cU th z := fun z => by
    rw [← sum6_held th hn hz z]
    simp only [cU, sum6]
    have h : ∀ k, ((th k).held.map (·.1)).count z ≤ (ownU (th k)).count z := fun k => by unfold ownU; rw [List.count_append]; omega
    have := h 0; have := h 1; have := h 2; have := h 3; have := h 4; have := h 5
    omega
  have := fit_le 24 ((heldsN th nt).map (·.1)) (nodup_one fun z => Nat.le_trans (key z) (I.cU_one z).1) fun z hm => by
    have h1 := List.count_pos_iff.2 hm
    have h2 := key z
    have h3 := (I.cU_one z).2 (by omega)
    omega
  simpa using this
theorem heldsN_mem {nt : Nat} {x : Int × Int} (h : x ∈ heldsN th nt) : ∃ i, i < nt ∧ x ∈ (th i).held := by
  induction nt with
  | zero => simp [heldsN] at h
  | succ n ih =>
    rcases List.mem_append.1 h with h | h
    · obtain ⟨i, h1, h2⟩ := ih h
      exact ⟨i, by omega, h2⟩
    · exact ⟨n, by omega, h⟩
/-- What the look at what is sound asks. -/
theorem InvK.souQ (I : InvK 24 mo th K S T A) (hmo : mo < 4294967296) (hz : ∀ k, 4 ≤ k → k < 6 → (th k).held = []) : SouQ 3 4 th S A := by
  refine ⟨by decide, Nat.le_trans (I.helds_len (by decide) hz) (by decide), by have := I.lenS; omega, fun z hm => ?_, fun g hg h0 z hzg => I.none_ (by omega) (by omega) h0 hzg⟩
  rcases List.mem_append.1 hm with h | h
  · obtain ⟨h1, h2, _⟩ := I.free_up h
    exact ⟨by omega, h2⟩
  · obtain ⟨x, hx, rfl⟩ := List.mem_map.1 h
    obtain ⟨i, hi, hx⟩ := heldsN_mem hx
    obtain ⟨h1, h2, _⟩ := I.held_up hmo (show i < 6 by omega) hx
    exact ⟨by omega, h2⟩
end
/-- What stands between two steps: four actors, a keeper. -/
structure WHS (W : World) (p b G K : Nat) (mo : Int) (c : Nat) (ly : Nat → LY) (th : Nat → TA) (o : KX) (fp : List Nat) (S : List Int) (T : Int) (M : MV) (w : World) : Prop where
  tw : TW 4 W.heap.size p b G ly th M w
  kb : KB 4 W.heap.size p b G K ly o fp w
  inv : InvK 24 mo th o.k S T (maV M.V)
  ti : T ≤ (c : Int)
  st : M.s.st ≤ (c : Int)
  low : Below W.heap.size W w
  rest : ∀ k, 4 ≤ k → th k = ⟨[], .no⟩
  lk : o.k.looks ≤ 2
/-- .. untold, but for what is asked besides. -/
def WH (W : World) (p b G K : Nat) (mo : Int) (c : Nat) (Q : (Nat → TA) → KO → List Int → MA → Prop) (w : World) : Prop :=
  ∃ ly th o fp S T M, WHS W p b G K mo c ly th o fp S T M w ∧ Q th o.k S (maV M.V)
section
variable {W : World} {p b G K c c' k : Nat} {mo : Int} {ly : Nat → LY} {th : Nat → TA} {o : KX} {fp : List Nat} {S : List Int} {T : Int} {M : MV} {Q Q' : (Nat → TA) → KO → List Int → MA → Prop} {w w' : World}
theorem WHS.held (Z : WHS W p b G K mo c ly th o fp S T M w) : ∀ k, 4 ≤ k → k < 6 → (th k).held = [] := fun k h _ => by rw [Z.rest k h]
theorem KB.onl {E : List Nat} (R : KB 4 W.heap.size p b G K ly o fp w) (O : Onl p b E w w') (hE : ∀ x ∈ K :: fp, x ∉ E) : KB 4 W.heap.size p b G K ly o fp w' :=
  ⟨R.rep.same fun x hx => O.block x (R.own x hx).2 (R.apx.ne x hx).1 (R.apx.ne x hx).2.1 (hE x hx), R.apx, fun x hx => ⟨(R.own x hx).1, Nat.lt_of_lt_of_le (R.own x hx).2 O.size⟩, R.kne⟩
/-- A look at the memory. -/
theorem WHS.after {n : Nat} (Z : WHS W p b G K mo c ly th o fp S T M w) (l : LmA p b M w n w') : ∃ M', M'.V = M.V ∧ WHS W p b G K mo (c + n) ly th o fp S T M' w' := by
  obtain ⟨M', e, e2, F⟩ := l.mem
  exact ⟨M', e, Z.tw.onl F l.onl (by simp) (by simp) (by simp), Z.kb.onl l.onl (by simp), by rw [e]; exact Z.inv, by have := Z.ti; push_cast; omega, by have := Z.st; push_cast; omega, below_onl Z.low l.onl Z.tw.pB Z.tw.bB (by simp), Z.rest, Z.lk⟩
theorem WH.after {n : Nat} (H : WH W p b G K mo c Q w) (f : ∀ {ly th o fp S T M}, WHS W p b G K mo c ly th o fp S T M w → Q th o.k S (maV M.V) → LmA p b M w n w') : WH W p b G K mo (c + n) Q w' := by
  obtain ⟨ly, th, o, fp, S, T, M, Z, q⟩ := H
  obtain ⟨M', e, Z'⟩ := Z.after (f Z q)
  exact ⟨ly, th, o, fp, S, T, M', Z', by rw [e]; exact q⟩
theorem WH.mono (H : WH W p b G K mo c Q w) (hc : c ≤ c') (hq : ∀ th K S A, Q th K S A → Q' th K S A) : WH W p b G K mo c' Q' w := by
  obtain ⟨ly, th, o, fp, S, T, M, Z, q⟩ := H
  exact ⟨ly, th, o, fp, S, T, M, ⟨Z.tw, Z.kb, Z.inv, by have := Z.ti; omega, by have := Z.st; omega, Z.low, Z.rest, Z.lk⟩, hq _ _ _ _ q⟩
theorem WH.low (H : WH W p b G K mo c Q w) : Below W.heap.size W w := by
  obtain ⟨ly, th, o, fp, S, T, M, Z, q⟩ := H
  exact Z.low
theorem WH.sound (H : WH W p b G K mo c Q w) (hmo : mo < 4294967296) (hc : c < 700000) :
    Calls Tryz.prog 22 #[.pointer (some ⟨p, 0, none⟩), .slice (some ⟨G, 0, none⟩) 4 4, .int .i64 3] w fun e w' => e = .returned (.bool true) ∧ WH W p b G K mo (c + 400) Q w' := by
  obtain ⟨ly, th, o, fp, S, T, M, Z, q⟩ := H
  refine (sound_any (n := 3) Z.tw (by have := Z.st; omega) Z.inv.G.stk (Z.inv.souQ hmo Z.held) (by decide)).mono ?_
  rintro e w' ⟨rfl, l⟩
  obtain ⟨M', e, Z'⟩ := Z.after l
  exact ⟨rfl, ly, th, o, fp, S, T, M', Z', by rw [e]; exact q⟩
/-- A step of an actor. -/
theorem WH.act (H : WH W p b G K mo c Q w) (bb : Bool) (hB : 1 < W.heap.size) (hmo : 0 ≤ mo ∧ mo < 4294967296) (hk : k < 4) (off : Nat) (ho : off = 3 * k) (hc : c < 800000)
    (hq : ∀ th K S A S', Q th K S A → ((stepTA th k bb mo A).1 k).op = .no ∨ remG (stepTA th k bb mo A).2 S'.length ((stepTA th k bb mo A).1 k).op + 1 ≤ remG A S.length (beginA (th k) bb mo).op → Q' (stepTA th k bb mo A).1 K S' (stepTA th k bb mo A).2) :
    Calls Tryz.prog 21 #[.pointer (some ⟨G, off, none⟩), .pointer (some ⟨p, 0, none⟩), .bool bb, .int .u32 mo] w fun e w' => e = .returned (.tuple #[]) ∧ WH W p b G K mo (c + 1) Q' w' := by
  obtain ⟨ly, th, o, fp, S, T, M, Z, q⟩ := H
  have hop := (Z.inv.begin hmo.2 (show k < 6 by omega) bb).1.ops k (by omega)
  rw [updA_same] at hop
  have hts : TS 4 W.heap.size p b G (K :: fp) c th (maV M.V) w w := ⟨ly, M, rfl, Z.st, Z.tw, Lw.start fun x hx => (Z.kb.own x hx).2, Z.kb.apx⟩
  refine (act_any bb mo hB Z.low.size hk off ho (by omega) hts hmo (fun x hx => ?_) ?_ (fun o e1 e2 e3 => ?_)).mono ?_
  · have := (Z.inv.held_up hmo.2 (show k < 6 by omega) hx).1
    omega
  · have h6 := beginA_len (mo := mo) (th k) bb
    have h7 := Z.inv.held_len (show k < 6 by omega)
    omega
  · rw [e1] at hop
    obtain ⟨_, hop⟩ := hop
    rcases hop with ⟨_, _, ho⟩ | ⟨_, hop⟩
    · rcases ho with ho | ⟨_, ho, _⟩ | ⟨ho, _⟩
      · omega
      · exact ho
      · omega
    · exfalso
      rcases hop with ⟨h, _⟩ | ⟨h, _⟩ | ⟨h, _⟩ <;> omega
  · rintro e w' ⟨rfl, ly', M', hM, hst, W', L, A'⟩
    have hT : T + 1 < 1000000 := by have := Z.ti; omega
    obtain ⟨S', T', I', t0, t1, _⟩ := Z.inv.step hmo.2 hT (show k < 6 by omega) bb
    have hr := Z.inv.step_rem hmo.2 hT (show k < 6 by omega) bb I'
    have hq' := hq _ _ _ _ S' q hr
    rw [← hM] at I' hq'
    refine ⟨rfl, ly', _, o, fp, S', T', M', ⟨W', ⟨Z.kb.rep.same fun x hx => (L.keep x hx).2, A', fun x hx => ⟨(Z.kb.own x hx).1, (L.keep x hx).1⟩, Z.kb.kne⟩, I', by have := Z.ti; push_cast; omega, by push_cast; exact hst, Z.low.trans L.low, fun j hj => ?_, Z.lk⟩, hq'⟩
    show updA th k _ j = _
    rw [updA_ne _ _ (by omega)]
    exact Z.rest j hj
theorem begK_inv (I : InvK 24 mo th o.k S T (maV M.V)) (gr : Bool) {sg lk : Int} (hsg : 0 ≤ sg ∧ sg < 3) : InvK 24 mo th (begK o gr sg lk).k S T (maV M.V) ∧ (begK o gr sg lk).k.ln ≠ 0 := by
  unfold begK
  by_cases h : o.k.ln = 0
  · rw [if_pos h]
    cases gr
    · exact ⟨I.kbegin h rfl rfl hsg, by simp [newKX]⟩
    · exact ⟨I.kbegin h rfl rfl hsg, by simp [newKX]⟩
  · rw [if_neg h]
    exact ⟨I, h⟩
/-- A step of the keeper's. -/
theorem WH.keeper (H : WH W p b G K mo c Q w) (gr : Bool) {sg lk : Int} (hB : 1 < W.heap.size) (hmo : mo < 4294967296) (hsg : 0 ≤ sg ∧ sg < 3) (hlk : 0 ≤ lk ∧ lk ≤ 2) (hc : c < 800000)
    (hq : ∀ th (o : KX) S A K' S' A', Q th o.k S A → K'.ln = 0 ∨ remK A' S'.length K' + 1 ≤ remK A S.length (begK o gr sg lk).k → Q' th K' S' A') :
    Calls Tryz.prog 20 #[.pointer (some ⟨K, 0, none⟩), .pointer (some ⟨p, 0, none⟩), .bool gr, .int .i64 sg, .int .i64 lk] w fun e w' => e = .returned (.tuple #[]) ∧ WH W p b G K mo (c + 1) Q' w' := by
  obtain ⟨ly, th, o, fp, S, T, M, Z, q⟩ := H
  obtain ⟨I1, h1⟩ := begK_inv (o := o) (M := M) Z.inv gr (lk := lk) hsg
  have hT : T + 1 < 1000000 := by have := Z.ti; omega
  have ok1 : KNum (begK o gr sg lk) := by
    unfold begK
    by_cases h : o.k.ln = 0
    · rw [if_pos h]
      cases gr
      · exact KNum.new true (by omega) (by omega)
      · exact KNum.new false (by omega) (by omega)
    · rw [if_neg h]; exact Z.kb.rep.1
  have hlk1 : (begK o gr sg lk).k.looks ≤ 2 := by
    unfold begK
    by_cases h : o.k.ln = 0
    · rw [if_pos h]
      cases gr <;> simp [newKX]
      omega
    · rw [if_neg h]; exact Z.lk
  refine (keep_any gr sg lk hB Z.low.size Z.tw Z.kb (Below.refl _ _) (by have := Z.st; omega) (by omega) (by omega)).mono ?_
  rintro e w' ⟨rfl, fp', W', R', L'⟩
  obtain ⟨o1, ho1⟩ : ∃ o1, begK o gr sg lk = o1 := ⟨_, rfl⟩
  rw [ho1] at I1 h1 ok1 hlk1 W' R'
  have hlen := I1.lenK
  have ma := kX_ma (M := M) ok1 h1 (fun h5 h2 => by
    rcases I1.ok.2.2 with ⟨_, h⟩ | ⟨_, ⟨_, h⟩ | ⟨_, h⟩ | ⟨h, _⟩ | ⟨h, _⟩⟩ | ⟨_, _, h⟩
    · omega
    · omega
    · obtain ⟨_, hl⟩ := h
      rcases hl with h | ⟨_, a, _⟩ | ⟨h, _⟩
      · rw [h2] at h; omega
      · exact a
      · rw [h2] at h; omega
    · omega
    · omega
    · omega) (by omega)
  obtain ⟨e1, _⟩ := ma
  obtain ⟨S', T', I', t0, t1⟩ := I1.keep hmo hT h1
  have hr := I1.keep_rem hT h1 I'
  have hlo := kF_looks o1.k (maV M.V)
  rw [e1] at I' hr hlo
  simp only at I' hr hlo
  exact ⟨rfl, ly, th, _, fp', S', T', _, ⟨W', R', I', by have := Z.ti; push_cast; omega, by have := Z.st; have := kX_st o1 M; push_cast; omega, Z.low.trans L', Z.rest, by omega⟩, hq th o S _ _ S' _ q (by rw [ho1]; exact hr)⟩
end
end Go.Proofs.YtmjcbjcnmgleaaaGreatDoor
