/-
  GrowsWhole: how it begins, what the words of the actors and of the keeper are, what is settled where nothing is under way; condition: the tables as laid, all lies as it says.
-/
import Derived.Test.YtmjcbjcnmgleaaaGreatDoorAF1
namespace Go.Proofs.YtmjcbjcnmgleaaaGreatDoor
open Go.RowKit Go.Maps

/-- Nothing under way. -/
def oz : KX := ⟨⟨false, 0, 0, 0, 0, 0, ⟨0, 0, 0⟩, newPark 0, []⟩, 0⟩
theorem oz_num : KNum oz where
  seg := ⟨by decide, by decide⟩
  ln := .inl ⟨by decide, by decide⟩
  gr := fun _ => .inl (by decide)
  slot := fun h => absurd h (by decide)
  w := u64_0
  psh := fun h => absurd h (by decide)
  p15 := fun h => absurd h (by decide)
  p7 := fun h => absurd h (by decide)
  pk := fun h => absurd h (by decide)
  kept := fun z h => by simp [oz] at h
  klen := by simp [oz]
  kno := fun _ _ _ => rfl
  err := fun h => absurd rfl h
  looks := ⟨by decide, by decide⟩
  k5 := fun h => absurd h (by decide)
theorem oz_inv {up : Nat} {M : MV} {mo : Int} (h3 : up ≤ 3) (h : Bex up 3 24 M) (hmo : 0 ≤ mo) : InvK 24 mo th0 oz.k (downS (8 * up)) ((8 * up : Nat) : Int) (maV M.V) := by
  refine InvK.start (up := up) (n := 3) h3 (by decide) rfl h.stk (fun z => ?_) (fun z hz => ?_) (fun z z0 z1 => ?_) (fun g g0 g1 => ?_) (fun g g0 g1 => ?_) (fun _ _ => rfl) ⟨rfl, rfl, by decide, by decide⟩ hmo
  · rw [down_count]; push_cast; rfl
  · rw [h.hdr, if_neg (by push_cast; exact hz)]
  · rw [h.hdr, if_pos (by push_cast; exact ⟨z0, z1⟩)]
  · exact h.sst g g0
  · rw [h.spk]
    by_cases k : g < (up : Int)
    · rw [if_neg (by omega), if_pos k]
    · rw [if_neg k]
      rw [if_pos (by push_cast; omega), if_pos (by omega)]
section
variable {W : World} {p b G K c c' k : Nat} {mo : Int} {Q Q' : (Nat → TA) → KO → List Int → MA → Prop} {w w' w1 : World}
theorem wh_begin {up : Nat} {M : MV} (h3 : up ≤ 3) (hL : Below W.heap.size W w1) (F : VX p b M w1) (hp : W.heap.size ≤ p) (hb : W.heap.size ≤ b) (H : Bex up 3 24 M) (hmo : 0 ≤ mo) :
    WH W p b w1.heap.size (w1.heap.size + 1) mo 200 (fun _ _ _ _ => True) ((w1.alloc (.cells act4 79)).alloc (.cells #[.pointer none, .pointer none] 72)) := by
  have hsz : (w1.alloc (.cells act4 79)).heap.size = w1.heap.size + 1 := World.size_alloc _ _
  have W1 := tw_four F hp hb hL.size
  have hb2 : Below (w1.alloc (.cells act4 79)).heap.size (w1.alloc (.cells act4 79)) ((w1.alloc (.cells act4 79)).alloc (.cells #[.pointer none, .pointer none] 72)) := (Below.refl _ _).alloc (Nat.le_refl _) _
  have kb := Bq.new (w1.alloc (.cells act4 79)) [.pointer none, .pointer none] 72
  rw [hsz] at kb
  have W2 := W1.onl (E := []) (W1.fm.below hb2) (.of_below hb2) List.not_mem_nil (fun _ _ _ _ => List.not_mem_nil) (fun _ _ _ _ => List.not_mem_nil)
  have ap : Apx [w1.heap.size + 1] p b w1.heap.size 4 ly0 := W1.apx (Q := []) ⟨fun _ h => absurd h List.not_mem_nil, fun _ _ _ h => absurd h List.not_mem_nil, fun _ _ _ h => absurd h List.not_mem_nil⟩ (fun x hx => .inr (by rw [List.mem_singleton.1 hx, hsz]; exact Nat.le_refl _))
  have hs := hL.size
  refine ⟨ly0, th0, oz, [], _, _, M, ⟨W2, ⟨⟨oz_num, .inl ⟨rfl, rfl, kb⟩⟩, ap, fun x hx => ?_, List.not_mem_nil⟩, oz_inv h3 H hmo, by omega, by have := H.st; omega, ?_, fun _ _ => rfl, by decide⟩, trivial⟩
  · rw [List.mem_singleton.1 hx]
    exact ⟨by omega, kb.lt⟩
  · exact hL.trans ((((Below.refl _ _).alloc (Nat.le_refl _) _).trans (hb2.mono (by omega))).mono hs)
theorem WH.low2 (H : WH W p b G K mo c Q w) : Lay w ∧ LayM w := by
  obtain ⟨ly, th, o, fp, S, T, M, Z, q⟩ := H
  exact ⟨Z.tw.fm.lay, Z.tw.fm.laym⟩
/-- An actor's two words. -/
theorem WH.ptr (H : WH W p b G K mo c Q w) {i : Nat} (hi : i < 4) : ∃ va vf, w.cell? ⟨G, i * 3 + 1, none⟩ = some va ∧ w.cell? ⟨G, i * 3 + 2, none⟩ = some vf ∧
    ((WH W p b G K mo c (fun th o S A => Q th o S A ∧ (th i).op = .no) w ∧ va = .pointer none ∧ vf = .pointer none) ∨
     (WH W p b G K mo c (fun th o S A => Q th o S A ∧ (th i).op ≠ .no) w ∧ ((∃ q, va = .pointer (some ⟨q, 0, none⟩) ∧ vf = .pointer none) ∨ (∃ q, va = .pointer none ∧ vf = .pointer (some ⟨q, 0, none⟩))))) := by
  obtain ⟨ly, th, o, fp, S, T, M, Z, q⟩ := H
  obtain ⟨c0, c1, c2, _⟩ := (Z.tw.tl hi).cells
  have hop := Z.tw.op i hi
  rw [Nat.mul_comm 3 i] at c1 c2
  refine ⟨_, _, c1, c2, ?_⟩
  cases ho : (th i).op with
  | no =>
    rw [ho] at hop
    obtain ⟨_, e1, e2⟩ := hop
    exact .inl ⟨⟨ly, th, o, fp, S, T, M, Z, q, ho⟩, e1, e2⟩
  | al a =>
    rw [ho] at hop
    obtain ⟨_, q1, _, _, _, _, _, _, _, e1, e2⟩ := hop
    exact .inr ⟨⟨ly, th, o, fp, S, T, M, Z, q, by rw [ho]; simp⟩, .inl ⟨q1, e1, e2⟩⟩
  | fr a =>
    rw [ho] at hop
    obtain ⟨_, q1, _, _, _, _, _, _, _, e1, e2⟩ := hop
    exact .inr ⟨⟨ly, th, o, fp, S, T, M, Z, q, by rw [ho]; simp⟩, .inr ⟨q1, e1, e2⟩⟩
/-- The keeper's two words. -/
theorem WH.kptr (H : WH W p b G K mo c Q w) : ∃ va vf, w.cell? ⟨K, 0, none⟩ = some va ∧ w.cell? ⟨K, 1, none⟩ = some vf ∧
    ((WH W p b G K mo c (fun th o S A => Q th o S A ∧ o.ln = 0) w ∧ va = .pointer none ∧ vf = .pointer none) ∨
     (WH W p b G K mo c (fun th o S A => Q th o S A ∧ o.ln ≠ 0) w ∧ ((∃ q, va = .pointer (some ⟨q, 0, none⟩) ∧ vf = .pointer none) ∨ (∃ q, va = .pointer none ∧ vf = .pointer (some ⟨q, 0, none⟩))))) := by
  obtain ⟨ly, th, o, fp, S, T, M, Z, q⟩ := H
  rcases Z.kb.rep.2 with ⟨h0, _, kb⟩ | ⟨h0, q1, _, _, _, kb⟩ | ⟨h0, _, q1, _, _, _, _, _, kb⟩ | ⟨h0, q1, _, _, _, _, kb⟩
  · exact ⟨_, _, kb.cell 0, kb.cell 1, .inl ⟨⟨ly, th, o, fp, S, T, M, Z, q, h0⟩, rfl, rfl⟩⟩
  · exact ⟨_, _, kb.cell 0, kb.cell 1, .inr ⟨⟨ly, th, o, fp, S, T, M, Z, q, h0⟩, .inl ⟨q1, rfl, rfl⟩⟩⟩
  · exact ⟨_, _, kb.cell 0, kb.cell 1, .inr ⟨⟨ly, th, o, fp, S, T, M, Z, q, h0⟩, .inr ⟨q1, rfl, rfl⟩⟩⟩
  · exact ⟨_, _, kb.cell 0, kb.cell 1, .inr ⟨⟨ly, th, o, fp, S, T, M, Z, q, by omega⟩, .inr ⟨q1, rfl, rfl⟩⟩⟩
/-- Nothing is under way: the first i actors; all, and the keeper. -/
def QI (i : Nat) : (Nat → TA) → KO → List Int → MA → Prop := fun th _ _ _ => ∀ j, j < i → (th j).op = .no
def QN (i n : Nat) : (Nat → TA) → KO → List Int → MA → Prop := fun th _ S A => (∀ j, j < i → (th j).op = .no) ∧ ((th i).op = .no ∨ remG A S.length (th i).op + n ≤ 530)
def QK (n : Nat) : (Nat → TA) → KO → List Int → MA → Prop := fun th K S A => (∀ j, j < 4 → (th j).op = .no) ∧ (K.ln = 0 ∨ remK A S.length K + n ≤ 1500)
def QE : (Nat → TA) → KO → List Int → MA → Prop := fun th K _ _ => (∀ j, j < 4 → (th j).op = .no) ∧ K.ln = 0
def QR (r : Nat) : (Nat → TA) → KO → List Int → MA → Prop := fun th K S A => r ≠ 0 → QE th K S A
theorem WH.qn (H : WH W p b G K mo c (QI k) w) : WH W p b G K mo c (QN k 0) w := by
  obtain ⟨ly, th, o, fp, S, T, M, Z, q⟩ := H
  exact ⟨ly, th, o, fp, S, T, M, Z, q, .inr (by have h1 := remG_le (maV M.V) S.length (th k).op; have h2 := Z.inv.lenS; omega)⟩
theorem WH.qk (H : WH W p b G K mo c (QI 4) w) : WH W p b G K mo c (QK 0) w := by
  obtain ⟨ly, th, o, fp, S, T, M, Z, q⟩ := H
  exact ⟨ly, th, o, fp, S, T, M, Z, q, .inr (by have h1 := Z.inv.remK_le (n := 2) (by have := Z.lk; omega); omega)⟩
theorem qn_step {i n : Nat} {th : Nat → TA} {K : KO} {S S' : List Int} {A : MA} (h : QN i n th K S A ∧ (th i).op ≠ .no) (h2 : ((stepTA th i false mo A).1 i).op = .no ∨ remG (stepTA th i false mo A).2 S'.length ((stepTA th i false mo A).1 i).op + 1 ≤ remG A S.length (beginA (th i) false mo).op) : QN i (n + 1) (stepTA th i false mo A).1 K S' (stepTA th i false mo A).2 := by
  obtain ⟨⟨h1, h3⟩, h4⟩ := h
  have e : beginA (th i) false mo = th i := by
    unfold beginA
    cases ho : (th i).op with
    | no => exact absurd ho h4
    | al o => rfl
    | fr o => rfl
  refine ⟨fun j hj => ?_, ?_⟩
  · show (updA th i _ j).op = .no
    rw [updA_ne _ _ (by omega)]
    exact h1 j hj
  · rw [e] at h2
    have h5 := h3.resolve_left h4
    exact h2.imp id fun h => by omega
theorem qn_room {i n : Nat} {th : Nat → TA} {K : KO} {S : List Int} {A : MA} (h : QN i n th K S A ∧ (th i).op ≠ .no) : n ≤ 530 := by
  have := h.1.2.resolve_left h.2
  omega
theorem WH.room {P : Prop} (H : WH W p b G K mo c Q w) (h : ∀ th K S A, Q th K S A → P) : P := by
  obtain ⟨ly, th, o, fp, S, T, M, Z, q⟩ := H
  exact h _ _ _ _ q
/-- What is settled in the end. -/
theorem WH.settled (H : WH W p b G K mo c QE w) (h1 : 1 < W.heap.size) (hmo : mo < 4294967296) (hc : c < 700000) :
    Calls Tryz.prog 23 #[.pointer (some ⟨p, 0, none⟩), .slice (some ⟨G, 0, none⟩) 4 4, .int .i64 3] w fun e w' => e = .returned (.bool true) ∧ WH W p b G K mo (c + 300) QE w' := by
  obtain ⟨ly, th, o, fp, S, T, M, Z, q⟩ := H
  have hno : ∀ k, k < 6 → (th k).op = .no := fun k hk => by
    by_cases h : k < 4
    · exact q.1 k h
    · rw [Z.rest k (by omega)]
  refine (settled_any (n := 3) Z.tw h1 (by have := Z.st; omega) Z.inv.G.stk (Z.inv.setQ rfl (by decide) hmo hno q.2 (by decide) Z.held) (by decide)).mono ?_
  rintro e w' ⟨rfl, l⟩
  obtain ⟨M', e, Z'⟩ := Z.after l
  exact ⟨rfl, ly, th, o, fp, S, T, M', Z', q⟩
theorem WH.lives (H : WH W p b G K mo c Q w) : Calls Tryz.prog 7 #[] w fun e w' => e = .returned (.bool true) ∧ Below W.heap.size W w' := by
  obtain ⟨h1, h2⟩ := H.low2
  have hL := H.low
  refine (lives9_any w h1 h2).mono ?_
  rintro e w' ⟨rfl, hb⟩
  exact ⟨rfl, hL.trans (hb.mono hL.size)⟩
end
end Go.Proofs.YtmjcbjcnmgleaaaGreatDoor
