/-
  A step of the keeper of segments: it does what the plain one does, and leaves what is not its own; condition: all lies as it says.
-/
import Derived.Test.YtmjcbjcnmgleaaaGreatDoorAE1
import Derived.Test.YtmjcbjcnmgleaaaGreatDoorGP14
namespace Go.Proofs.YtmjcbjcnmgleaaaGreatDoor
open Go.RowKit Go.Maps

section
variable {nt B p b G K q r r1 : Nat} {fp : List Nat} {ly : Nat → LY} {th : Nat → TA} {M : MV} {o : KX} {kv : Value} {w w' w0 : World}
theorem GrRep.same (h : GrRep q r o w) (h1 : w'.heap[q]? = w.heap[q]?) (h2 : w'.heap[r]? = w.heap[r]?) : GrRep q r o w' := by
  rcases h with ⟨h, pt, sg, sl, ws, k⟩ | ⟨h, h3, pt, ws, hw, k⟩ | ⟨h, h3, pt, sl, ws, k, a1, a2, a3, a4⟩
  · exact .inl ⟨h, pt, sg, sl, ws, k.same h1⟩
  · exact .inr (.inl ⟨h, h3, pt, ws, hw, k.same h1⟩)
  · exact .inr (.inr ⟨h, h3, pt, sl, ws, k.same h1, a1, a2, a3, fun e => ⟨(a4 e).1, (a4 e).2.same h2⟩⟩)
theorem ShP.same {nx : Int} (h : ShP B q r r1 nx o kv w) (h1 : w'.heap[q]? = w.heap[q]?) (h2 : w'.heap[r]? = w.heap[r]?) (h3 : w'.heap[r1]? = w.heap[r1]?) (h4 : o.k.ln ≤ 8 → ∀ g, kv.ownBlock = some g → w'.heap[g]? = w.heap[g]?) : ShP B q r r1 nx o kv w' := by
  refine ⟨fun hl => (h.1 hl).same (h4 hl), ?_⟩
  rcases h.2 with ⟨a1, pt, ws, a2, k⟩ | ⟨a1, ws, a2, k, k2⟩ | ⟨a1, ws, a2, k, k2, a3⟩ | ⟨a1, ws, a2, k, k2⟩ | ⟨a1, pt, sl, ws, k, b1, b2, b3, b4⟩
  · exact .inl ⟨a1, pt, ws, a2, k.same h1⟩
  · exact .inr (.inl ⟨a1, ws, a2, k.same h1, k2.same h2⟩)
  · exact .inr (.inr (.inl ⟨a1, ws, a2, k.same h1, k2.same9 h2 h3, a3⟩))
  · exact .inr (.inr (.inr (.inl ⟨a1, ws, a2, k.same h1, k2.same h2⟩)))
  · exact .inr (.inr (.inr (.inr ⟨a1, pt, sl, ws, k.same h1, b1, b2, b3, fun e => ⟨(b4 e).1, (b4 e).2.same h2⟩⟩)))
theorem ShRep.same (h : ShRep B q r r1 o kv w) (h1 : w'.heap[q]? = w.heap[q]?) (h2 : w'.heap[r]? = w.heap[r]?) (h3 : w'.heap[r1]? = w.heap[r1]?) (h4 : o.k.ln ≤ 8 → ∀ g, kv.ownBlock = some g → w'.heap[g]? = w.heap[g]?) : ShRep B q r r1 o kv w' := by
  rcases h with ⟨h, pt, sg, sl, ws, lk, k⟩ | ⟨h, h0, P⟩
  · exact .inl ⟨h, pt, sg, sl, ws, lk, k.same h1⟩
  · exact .inr ⟨h, h0, P.same h1 h2 h3 h4⟩
/-- The block of its part is one that there is. -/
theorem GrRep.tidy (h : GrRep q r o w) : ∃ r2, (r2 = q ∨ r2 = r) ∧ GrRep q r2 o w ∧ q < w.heap.size ∧ r2 < w.heap.size := by
  rcases h with ⟨h, pt, sg, sl, ws, k⟩ | ⟨h, h3, pt, ws, hw, k⟩ | ⟨h, h3, pt, sl, ws, k, a1, a2, a3, a4⟩
  · exact ⟨q, .inl rfl, .inl ⟨h, pt, sg, sl, ws, k⟩, k.lt, k.lt⟩
  · exact ⟨q, .inl rfl, .inr (.inl ⟨h, h3, pt, ws, hw, k⟩), k.lt, k.lt⟩
  · by_cases e : o.k.ln = 15
    · exact ⟨r, .inr rfl, .inr (.inr ⟨h, h3, pt, sl, ws, k, a1, a2, a3, a4⟩), k.lt, (a4 e).2.lt⟩
    · exact ⟨q, .inl rfl, .inr (.inr ⟨h, h3, pt, sl, ws, k, a1, a2, a3, fun e2 => absurd e2 e⟩), k.lt, k.lt⟩
theorem ShRep.tidy (h : ShRep B q r r1 o kv w) : ∃ r2 r3, (r2 = q ∨ r2 = r ∨ r2 = r1) ∧ (r3 = q ∨ r3 = r ∨ r3 = r1) ∧ (11 ≤ o.k.ln → r3 = r2) ∧ ShRep B q r2 r3 o kv w ∧ q < w.heap.size ∧ r2 < w.heap.size ∧ r3 < w.heap.size := by
  rcases h with ⟨h, pt, sg, sl, ws, lk, k⟩ | ⟨h, h0, hk, P⟩
  · exact ⟨q, q, .inl rfl, .inl rfl, fun _ => rfl, .inl ⟨h, pt, sg, sl, ws, lk, k⟩, k.lt, k.lt, k.lt⟩
  · rcases P with ⟨a1, pt, ws, a2, k⟩ | ⟨a1, ws, a2, k, k2⟩ | ⟨a1, ws, a2, k, k2, a3⟩ | ⟨a1, ws, a2, k, k2⟩ | ⟨a1, pt, sl, ws, k, b1, b2, b3, b4⟩
    · exact ⟨q, q, .inl rfl, .inl rfl, fun _ => rfl, .inr ⟨h, h0, hk, .inl ⟨a1, pt, ws, a2, k⟩⟩, k.lt, k.lt, k.lt⟩
    · exact ⟨r, q, .inr (.inl rfl), .inl rfl, fun e => by omega, .inr ⟨h, h0, hk, .inr (.inl ⟨a1, ws, a2, k, k2⟩)⟩, k.lt, k2.lt, k.lt⟩
    · have hlt : r < w.heap.size ∧ r1 < w.heap.size := by
        rcases k2 with ⟨e, _⟩ | ⟨_, _, _, _, kq, kr⟩
        · exact absurd e a3
        · exact ⟨kq.lt, kr.lt⟩
      exact ⟨r, r1, .inr (.inl rfl), .inr (.inr rfl), fun e => by omega, .inr ⟨h, h0, hk, .inr (.inr (.inl ⟨a1, ws, a2, k, k2, a3⟩))⟩, k.lt, hlt.1, hlt.2⟩
    · exact ⟨r, q, .inr (.inl rfl), .inl rfl, fun e => by omega, .inr ⟨h, h0, hk, .inr (.inr (.inr (.inl ⟨a1, ws, a2, k, k2⟩)))⟩, k.lt, k2.lt, k.lt⟩
    · by_cases e : o.k.ln = 15
      · exact ⟨r, r, .inr (.inl rfl), .inr (.inl rfl), fun _ => rfl, .inr ⟨h, h0, hk, .inr (.inr (.inr (.inr ⟨a1, pt, sl, ws, k, b1, b2, b3, b4⟩)))⟩, k.lt, (b4 e).2.lt, (b4 e).2.lt⟩
      · exact ⟨q, q, .inl rfl, .inl rfl, fun _ => rfl, .inr ⟨h, h0, hk, .inr (.inr (.inr (.inr ⟨a1, pt, sl, ws, k, b1, b2, b3, fun e2 => absurd e2 e⟩)))⟩, k.lt, k.lt, k.lt⟩
theorem ShRep.kv_lt (h : ShRep B q r r1 o kv w) (h0 : o.k.ln ≠ 0) (h8 : o.k.ln ≤ 8) {g : Nat} (hg : kv.ownBlock = some g) : B ≤ g ∧ g < w.heap.size := by
  rcases h with ⟨h, _⟩ | ⟨_, _, hk, _⟩
  · exact absurd h h0
  · obtain ⟨h1, cur, h2⟩ := (hk h8).lt hg
    exact ⟨h1, (Array.getElem?_eq_some_iff.1 h2).1⟩
/-- A Shrink that turns its slots back: what is kept isn't touched. -/
theorem shrink_turn9 (hq : 1 < q) (hr : 1 < r) (F : VX p b M w) (hs : M.s.st < 1000000) (ok : KNum o) (hl : 11 ≤ o.k.ln) (P : ShRep B q r r1 o kv w) :
    Calls Tryz.prog 35 #[.pointer (some ⟨q, 0, none⟩), .pointer (some ⟨p, 0, none⟩)] w fun e w' => e = .returned (.bool ((kX o M).1.k.ln == 0)) ∧ ((kX o M).1.k.ln = 0 ∨ 11 ≤ (kX o M).1.k.ln) ∧ ∃ r', ShRep B q r' r' (kX o M).1 kv w' ∧ VX p b (kX o M).2 w' ∧ Onl p b [q, r] w w' ∧ (r' = r ∨ w.heap.size ≤ r') := by
  have hR : o.k.sh = true ∧ TR q r 63 (nxL o.k.ln) o.k 9 [.int .i64 o.k.looks, kv] w := by
    rcases P with ⟨h, _⟩ | ⟨hsh, _, _, h⟩
    · omega
    · rcases h with ⟨h, _⟩ | ⟨h, _⟩ | ⟨h, _⟩ | ⟨h, _⟩ | ⟨_, h⟩
      · omega
      · omega
      · omega
      · omega
      · exact ⟨hsh, h⟩
  obtain ⟨hsh, R⟩ := hR
  have e : kX o M = turnX o M := by unfold kX; rw [if_pos hl]
  rw [e]
  have hl2 : 11 ≤ o.k.ln ∧ o.k.ln ≤ 15 := ⟨hl, by have := ok.ln; omega⟩
  obtain ⟨t1, t2, t3, t4⟩ := turnX_kinds o M hl2
  have T := turn_stepX hq hr (by decide) (by decide) F hs ok hl R
  obtain ⟨pt, sl, ws, k, r0⟩ := R
  have key : Calls Tryz.prog 35 #[.pointer (some ⟨q, 0, none⟩), .pointer (some ⟨p, 0, none⟩)] w fun e w' => e = .returned (.bool (nxL (turnX o M).1.k.ln == 0)) ∧ ∃ w1, (∃ r', TR q r' 63 (nxL o.k.ln) (turnX o M).1.k 9 [.int .i64 o.k.looks, kv] w1 ∧ VX p b (turnX o M).2 w1 ∧ Onl p b [q, r] w w1 ∧ (r' = r ∨ w.heap.size ≤ r')) ∧ w' = w1.setCell ⟨q, 0, none⟩ (.int .i64 (nxL (turnX o M).1.k.ln)) := by
    have hb : ∀ X, (∃ r', TR q r' 63 (nxL o.k.ln) (turnX o M).1.k 9 [.int .i64 o.k.looks, kv] X ∧ VX p b (turnX o M).2 X ∧ Onl p b [q, r] w X ∧ (r' = r ∨ w.heap.size ≤ r')) → ∃ nx pt' sg' sl' ws' en' tl', Bq q 63 (TC nx pt' sg' sl' ws' en' tl') X := fun X ⟨_, h, _⟩ => h.bq
    obtain h | h | h | h | h : o.k.ln = 11 ∨ o.k.ln = 12 ∨ o.k.ln = 13 ∨ o.k.ln = 14 ∨ o.k.ln = 15 := by omega
    · exact gShrink_turn7 (by rw [show nxL o.k.ln = 7 by rw [h]; rfl] at k; exact k) T hb
    · exact gShrink_turn8 (by rw [show nxL o.k.ln = 8 by rw [h]; rfl] at k; exact k) T hb
    · exact gShrink_turn9 (by rw [show nxL o.k.ln = 9 by rw [h]; rfl] at k; exact k) T hb
    · exact gShrink_turn10 (by rw [show nxL o.k.ln = 10 by rw [h]; rfl] at k; exact k) T hb
    · exact gShrink_turn11 (by rw [show nxL o.k.ln = 11 by rw [h]; rfl] at k; exact k) T hb
  refine key.mono ?_
  rintro e w' ⟨rfl, X, ⟨r', h1, h2, h3, h4⟩, rfl⟩
  rcases t2 with ⟨t2, t5⟩ | t2
  · have hn0 : nxL (turnX o M).1.k.ln = 0 := by rw [t2]; rfl
    rw [hn0]
    obtain ⟨pt', sl', ws', k', _⟩ := h1
    have hne := h2.ne (by decide) k'
    have k9 : Bq q 63 (TC 0 pt' (turnX o M).1.k.seg sl' ws' (turnX o M).1.err [.int .i64 o.k.looks, kv]) (X.setCell ⟨q, 0, none⟩ (.int .i64 0)) := by
      rw [t5, hsh, if_pos rfl]
      exact k'.set 0 _ rfl
    exact ⟨by rw [t2], .inl t2, r, .inl ⟨t2, pt', _, sl', ws', _, k9⟩, h2.setQ hne.1 hne.2 hq 0 _, h3.trans (.setCell _ (by simp) 0 _), .inl rfl⟩
  · have hz : nxL (turnX o M).1.k.ln ≠ 0 := nxL_ne (.inr t2)
    have hz2 : (turnX o M).1.k.ln ≠ 0 := by omega
    obtain ⟨_, _, _, _, _, _, _, kb⟩ := h1.bq
    have hne := h2.ne (by decide) kb
    have P1 : ShP B q r' r' (nxL o.k.ln) (turnX o M).1 kv X := ⟨fun h => by omega, .inr (.inr (.inr (.inr ⟨t2.1, by rw [t4]; exact h1⟩)))⟩
    exact ⟨by rw [beq_eq_false_iff_ne.2 hz, beq_eq_false_iff_ne.2 hz2], .inr t2.1, r', .inr ⟨t1.trans hsh, hz2, P1.set0 _⟩, h2.setQ hne.1 hne.2 hq 0 _, h3.trans (.setCell _ (by simp) 0 _), h4⟩
/-- The keeper as it lies: its block, those of what is under way. -/
def KpR (B K : Nat) (o : KX) (fp : List Nat) (w : World) : Prop :=
  KNum o ∧
  ((o.k.ln = 0 ∧ fp = [] ∧ Bq K 72 [.pointer none, .pointer none] w) ∨
   (o.k.ln ≠ 0 ∧ ∃ q r, fp = [q, r] ∧ GrRep q r o w ∧ Bq K 72 [.pointer (some ⟨q, 0, none⟩), .pointer none] w) ∨
   (o.k.ln ≠ 0 ∧ o.k.ln ≤ 8 ∧ ∃ q r r1 kv, fp = q :: r :: r1 :: kv.ownBlock.toList ∧ ShRep B q r r1 o kv w ∧ Bq K 72 [.pointer none, .pointer (some ⟨q, 0, none⟩)] w) ∨
   (11 ≤ o.k.ln ∧ ∃ q r kv, fp = [q, r] ∧ ShRep B q r r o kv w ∧ Bq K 72 [.pointer none, .pointer (some ⟨q, 0, none⟩)] w))
structure KB (nt B p b G K : Nat) (ly : Nat → LY) (o : KX) (fp : List Nat) (w : World) : Prop where
  rep : KpR B K o fp w
  apx : Apx (K :: fp) p b G nt ly
  own : ∀ x ∈ K :: fp, B ≤ x ∧ x < w.heap.size
  kne : K ∉ fp
theorem KpR.same (h : KpR B K o fp w) (hs : ∀ x ∈ K :: fp, w'.heap[x]? = w.heap[x]?) : KpR B K o fp w' := by
  refine ⟨h.1, ?_⟩
  have hK := hs K (by simp)
  rcases h.2 with ⟨h1, h2, h3⟩ | ⟨h1, q, r, rfl, h2, h3⟩ | ⟨h1, h8, q, r, r1, kv, rfl, h2, h3⟩ | ⟨h1, q, r, kv, rfl, h2, h3⟩
  · exact .inl ⟨h1, h2, h3.same hK⟩
  · exact .inr (.inl ⟨h1, q, r, rfl, h2.same (hs q (by simp)) (hs r (by simp)), h3.same hK⟩)
  · exact .inr (.inr (.inl ⟨h1, h8, q, r, r1, kv, rfl, h2.same (hs q (by simp)) (hs r (by simp)) (hs r1 (by simp)) (fun _ g hg => hs g (by simp [hg])), h3.same hK⟩))
  · exact .inr (.inr (.inr ⟨h1, q, r, kv, rfl, h2.same (hs q (by simp)) (hs r (by simp)) (hs r (by simp)) (fun h => by omega), h3.same hK⟩))
theorem TW.apx (W : TW nt B p b G ly th M w) {Q Q' : List Nat} (A : Apx Q p b G nt ly) (h : ∀ x ∈ Q', x ∈ Q ∨ w.heap.size ≤ x) : Apx Q' p b G nt ly := by
  obtain ⟨cur, h1, _⟩ := W.blk
  have hG := (Array.getElem?_eq_some_iff.1 h1).1
  have hp := W.fm.lt
  refine ⟨fun x hx => (h x hx).elim (A.ne x) fun e => by omega, fun j hj x hx => (h x hx).elim (A.h j hj x) fun e e2 => ?_, fun j hj x hx => (h x hx).elim (A.o j hj x) fun e e2 => ?_⟩
  · have := ((W.row j hj).lt e2).2.1
    omega
  · have := (W.own j hj x e2).lt
    omega
/-- Blocks of the keeper's turn, and the memory's. -/
theorem TW.onlQ {Q E : List Nat} {M' : MV} (W : TW nt B p b G ly th M w) (A : Apx Q p b G nt ly) (F : VX p b M' w') (h : Onl p b E w w') (hE : ∀ x ∈ E, x ∈ Q) : TW nt B p b G ly th M' w' :=
  W.onl F h (fun e => (A.ne G (hE G e)).2.2 rfl) (fun j hj g hg e => A.h j hj g (hE g e) hg) (fun j hj x hx e => A.o j hj x (hE x e) hx)
theorem TW.setK {Q : List Nat} (W : TW nt B p b G ly th M w) (hB : 1 < B) (A : Apx Q p b G nt ly) (hK : K ∈ Q) (hBK : B ≤ K) (i : Nat) (v : Value) : TW nt B p b G ly th M (w.setCell ⟨K, i, none⟩ v) :=
  W.onlQ A (W.fm.setQ (A.ne K hK).1 (A.ne K hK).2.1 (by omega) i v) (.setCell (p := p) (b := b) (E := [K]) w (by simp) i v) (fun x hx => by rw [List.mem_singleton.1 hx]; exact hK)
theorem Onl.lowK {E : List Nat} (h : Onl p b E w w') (W : TW nt B p b G ly th M w) (hL : Below B w0 w) (hBw : B ≤ w0.heap.size) (hE : ∀ x ∈ E, B ≤ x) : Below B w0 w' :=
  hL.trans (h.below (B := B) W.pB W.bB hE (Nat.le_trans hBw hL.size))
/-- What the keeper takes up, where nothing is under way. -/
def begK (o : KX) (gr : Bool) (sg lk : Int) : KX := if o.k.ln = 0 then (if gr = true then newKX false sg 0 else newKX true sg lk) else o
set_option maxRecDepth 100000 in
set_option maxHeartbeats 8000000 in
theorem keep_any (gr : Bool) (sg lk : Int) (hB : 1 < B) (hBw : B ≤ w0.heap.size) (W : TW nt B p b G ly th M w) (R : KB nt B p b G K ly o fp w) (hL : Below B w0 w) (hs : M.s.st < 1000000) (hsg : 0 ≤ sg ∧ sg < 32) (hlk : -9223372036854775808 ≤ lk ∧ lk < 9223372036854775808) :
    Calls Tryz.prog 20 #[.pointer (some ⟨K, 0, none⟩), .pointer (some ⟨p, 0, none⟩), .bool gr, .int .i64 sg, .int .i64 lk] w fun e w' => e = .returned (.tuple #[]) ∧ ∃ fp', TW nt B p b G ly th (kX (begK o gr sg lk) M).2 w' ∧ KB nt B p b G K ly (kX (begK o gr sg lk) M).1 fp' w' ∧ Below B w0 w' := by
  have HW := Lib.hid W
  have HLW := Lib.hid hL
  obtain ⟨⟨hnum, hrep⟩, hap, how, hkn⟩ := R
  have HNUM := Lib.hid hnum
  have HAP := Lib.hid hap
  have HOW := Lib.hid how
  have HKN := Lib.hid hkn
  have hBK := (how K (by simp)).1
  clear W hL hnum hap how hkn
  go_enter Tryz.func20, Tryz.ntmps20
  rcases hrep with ⟨h0, rfl, hkb⟩ | ⟨h0, q, r, rfl, hrep, hkb⟩ | ⟨h0, h8, q, r, r1, kv, rfl, hrep, hkb⟩ | ⟨h11, q, r, kv, rfl, hrep, hkb⟩
  · have HKB := Lib.hid hkb
    clear hkb
    cases gr
    · rw [show begK o false sg lk = newKX true sg lk by unfold begK; rw [if_pos h0, if_neg (by decide)]]
      clear h0 HNUM
      generalize hN : newKX true sg lk = o
      have HN := Lib.hid hN
      clear hN
      have hnew := newShrink_good hsg.1 hsg.2 lk w
      have HNUM := Lib.hid (show KNum o from by rw [← HN.out]; exact KNum.new true hsg hlk)
      have c0 := HKB.out.cell 0
      have c1 := HKB.out.cell 1
      have cf := HKB.out.free
      try simp only [List.getElem?_cons_zero, List.getElem?_cons_succ] at c0 c1
      have z0 := cf 0
      have z1 := cf 1
      clear cf
      go_wp2_with fail
      ((with_reducible refine hnew.mono ?_); rintro e w1 ⟨q, rfl, hq, kq, hb1⟩)
      have HB1 := Lib.hid hb1
      have HKB1 := Lib.hid (HKB.out.below hb1)
      have HW1 := Lib.hid (show TW nt B p b G ly th M w1 from HW.out.onlQ (E := []) HAP.out (HW.out.fm.below hb1) (.of_below hb1) (by simp))
      have hKq : K ≠ q := by have := HKB.out.lt; omega
      have HREP1 := Lib.hid (show ShRep B q q q o (.slice none 0 0) w1 from by rw [← HN.out]; exact .inr ⟨rfl, by simp [newKX], fun _ => World.ownsRow_nil _ _ _ _, .inl ⟨.inl rfl, .nilIface, 0, u64_0, by rw [Int.mul_comm] at kq; exact kq⟩⟩)
      have HQ := Lib.hid (⟨hq, kq.lt⟩ : _ ∧ _)
      clear hnew hb1 kq hq c0 c1 z0 z1
      have c0 := HKB1.out.cell 0
      have c1 := HKB1.out.cell 1
      have cf := HKB1.out.free
      try simp only [List.getElem?_cons_zero, List.getElem?_cons_succ] at c0 c1
      have z0 := cf 0
      have z1 := cf 1
      clear cf
      go_upto_region 4 with (fail)
      have HKB2 := Lib.hid (HKB1.out.set 1 (.pointer (some ⟨q, 0, none⟩)) rfl)
      have HLW2 := Lib.hid (show Below B w0 (w1.setCell ⟨K, 1, none⟩ (.pointer (some ⟨q, 0, none⟩))) from (HLW.out.trans (HB1.out.mono (Nat.le_trans hBw HLW.out.size))).setCell (p := ⟨K, 1, none⟩) hBK _)
      have HW2 := Lib.hid (HW1.out.setK hB HAP.out (by simp) hBK 1 (.pointer (some ⟨q, 0, none⟩)))
      have hsame : (w1.setCell ⟨K, 1, none⟩ (.pointer (some ⟨q, 0, none⟩))).heap[q]? = w1.heap[q]? := Below.heap_setCell w1 ⟨K, 1, none⟩ _ q (Ne.symm hKq)
      have HREP := Lib.hid (HREP1.out.same hsame hsame hsame (fun _ g hg => by simp [Value.ownBlock] at hg))
      have HAP2 := Lib.hid (show Apx (K :: q :: q :: q :: (Value.slice none 0 0).ownBlock.toList) p b G nt ly from HW.out.apx HAP.out (fun x hx => by
        simp only [Value.ownBlock, Option.toList_none, List.mem_cons, List.not_mem_nil, or_false] at hx ⊢
        have := HQ.out.1
        omega))
      have HOW2 := Lib.hid (show ∀ x ∈ K :: q :: q :: q :: (Value.slice none 0 0).ownBlock.toList, B ≤ x ∧ x < (w1.setCell ⟨K, 1, none⟩ (.pointer (some ⟨q, 0, none⟩))).heap.size from fun x hx => by
        simp only [Value.ownBlock, Option.toList_none, List.mem_cons, List.not_mem_nil, or_false] at hx
        have h1 := HQ.out
        have h2 := HLW.out.size
        have h3 : (w1.setCell ⟨K, 1, none⟩ (.pointer (some ⟨q, 0, none⟩))).heap.size = w1.heap.size := by simp [World.setCell]
        have h4 := HKB2.out.lt
        rcases (show x = K ∨ x = q by omega) with h | h
        · rw [h]; exact ⟨hBK, h4⟩
        · rw [h]; exact ⟨by omega, by omega⟩)
      have HKN2 := Lib.hid (show K ∉ q :: q :: q :: (Value.slice none 0 0).ownBlock.toList from by simp [Value.ownBlock, hKq])
      clear HW HAP HOW HKN HKB HLW HREP1 HW1 HKB1 HB1 HQ hsame c0 c1 z0 z1 hKq
      revert HKB2 HLW2 HW2 HREP HOW2
      generalize w1.setCell ⟨K, 1, none⟩ (.pointer (some ⟨q, 0, none⟩)) = w9
      intro HKB HLW HW HREP HOW
      have HAP := HAP2
      have HKN := HKN2
      clear HAP2 HKN2
      generalize Value.slice none 0 0 = kv at *
      have c0 := HKB.out.cell 0
      have c1 := HKB.out.cell 1
      have cf := HKB.out.free
      try simp only [List.getElem?_cons_zero, List.getElem?_cons_succ] at c0 c1
      have z0 := cf 0
      have z1 := cf 1
      clear cf
      have hq1 : 1 < q := by have := (HOW.out q (by simp)).1; omega
      have hr1 : 1 < q := by have := (HOW.out q (by simp)).1; omega
      have hr2 : 1 < q := by have := (HOW.out q (by simp)).1; omega
      go_wp2_with fail
      ((with_reducible refine (shrink_stepX hq1 hr1 hr2 hB (Nat.le_trans hBw HLW.out.size) HW.out.fm hs HNUM.out HREP.out.sh HREP.out).mono ?_); rintro e w2 ⟨rfl, r', r1', kv', k1, k2, k3, k4, k5, k6⟩)
      have HNUM2 := Lib.hid (HNUM.out.step HW.out.fm.u64)
      have HW2 := Lib.hid (HW.out.onlQ HAP.out k2 k3 (fun x hx => List.mem_cons_of_mem _ hx))
      have HKB2 := Lib.hid (HKB.out.onl k3 (HAP.out.ne K (by simp)).1 (HAP.out.ne K (by simp)).2.1 HKN.out)
      have HLW2 := Lib.hid (k3.lowK HW.out HLW.out hBw (fun x hx => (HOW.out x (List.mem_cons_of_mem _ hx)).1))
      have HSZ := Lib.hid k3.size
      obtain ⟨r2, r3, t1, t5, t6, t2, t3, t4, t7⟩ := k1.tidy
      have HT := Lib.hid (⟨t1, t5, t6, t2, t3, t4, t7⟩ : _ ∧ _ ∧ _ ∧ _ ∧ _ ∧ _ ∧ _)
      have HK4 := Lib.hid (⟨k4, k5, k6⟩ : _ ∧ _ ∧ _)
      clear t1 t2 t3 t4 t5 t6 t7 k1 k2 k3 k4 k5 k6 c0 c1 z0 z1 HKB
      have c0 := HKB2.out.cell 0
      have c1 := HKB2.out.cell 1
      have cf := HKB2.out.free
      try simp only [List.getElem?_cons_zero, List.getElem?_cons_succ] at c0 c1
      have z0 := cf 0
      have z1 := cf 1
      clear cf
      by_cases hz : (kX o M).1.k.ln = 0
      · rw [hz]
        have HZ := Lib.hid hz
        clear hz
        go_wp2_with fail
        ((try simp only [Exit.inBlock, Exit.then]); first | go_end0 | refine bodyPost_ret (results_none rfl _ _ _) rfl ?_)
        have hset := HKB2.out.set 1 (.pointer none) rfl
        refine ⟨rfl, [], HW2.out.setK hB HAP.out (by simp) (HOW.out K (by simp)).1 1 (.pointer none), ⟨⟨HNUM2.out, .inl ⟨HZ.out, rfl, hset⟩⟩, HW.out.apx HAP.out (fun x hx => .inl (by simp at hx; simp [hx])), fun x hx => ?_, by simp⟩, HLW2.out.setCell (p := ⟨K, 1, none⟩) (HOW.out K (by simp)).1 _⟩
        rw [show x = K by simpa using hx]
        exact ⟨(HOW.out K (by simp)).1, hset.lt⟩
      · have HZ := Lib.hid hz
        have hzb := fls hz
        rw [hzb]
        clear hz hzb
        go_wp2_with fail
        ((try simp only [Exit.inBlock, Exit.then]); first | go_end0 | refine bodyPost_ret (results_none rfl _ _ _) rfl ?_)
        obtain ⟨t1, t5, t6, t2, t3, t4, t7⟩ := HT.out
        obtain ⟨k4, k5, k6⟩ := HK4.out
        have hKs := (HOW.out K (by simp)).2
        have hKN := HKN.out
        have hKl := HKB2.out.lt
        by_cases h8 : (kX o M).1.k.ln ≤ 8
        · have hkv : ∀ g, kv'.ownBlock = some g → (kv.ownBlock = some g ∨ w9.heap.size ≤ g) ∧ g < w2.heap.size := fun g hg => ⟨k6.elim (fun h => .inl (h.symm.trans hg)) (fun ⟨g', h1, h2⟩ => .inr (by rw [h1] at hg; injection hg with hg; omega)), (t2.kv_lt HZ.out h8 hg).2⟩
          have hX : ∀ x ∈ K :: q :: r2 :: r3 :: kv'.ownBlock.toList, (x ∈ K :: q :: q :: q :: kv.ownBlock.toList ∨ w9.heap.size ≤ x) ∧ x < w2.heap.size := fun x hx => by
            simp only [List.mem_cons, Option.mem_toList] at hx ⊢
            rcases hx with rfl | rfl | h | h | h
            · exact ⟨.inl (.inl rfl), hKl⟩
            · exact ⟨.inl (.inr (.inl rfl)), t3⟩
            · exact ⟨by rcases t1 with e | e | e <;> omega, by omega⟩
            · exact ⟨by rcases t5 with e | e | e <;> omega, by omega⟩
            · exact ⟨(hkv x h).1.imp (fun h => .inr (.inr (.inr (.inr h)))) id, (hkv x h).2⟩
          refine ⟨rfl, q :: r2 :: r3 :: kv'.ownBlock.toList, HW2.out, ⟨⟨HNUM2.out, .inr (.inr (.inl ⟨HZ.out, h8, q, r2, r3, kv', rfl, t2, HKB2.out⟩))⟩, HW.out.apx HAP.out (fun x hx => (hX x hx).1), fun x hx => ⟨(hX x hx).1.elim (fun h => (HOW.out x h).1) (fun h => by have := HLW.out.size; omega), (hX x hx).2⟩, fun hx => ?_⟩, HLW2.out⟩
          simp only [List.mem_cons, Option.mem_toList, not_or] at hx hKN
          rcases hx with h | h | h | h
          · omega
          · rcases t1 with e | e | e <;> omega
          · rcases t5 with e | e | e <;> omega
          · rcases (hkv K h).1 with h | h
            · exact hKN.2.2.2 h
            · omega
        · have h11 : 11 ≤ (kX o M).1.k.ln := by have := HNUM2.out.ln; omega
          have hX : ∀ x ∈ [K, q, r2], x ∈ K :: q :: q :: q :: kv.ownBlock.toList ∨ w9.heap.size ≤ x := fun x hx => by
            simp only [List.mem_cons, List.not_mem_nil, or_false, Option.mem_toList] at hx ⊢
            rcases hx with rfl | rfl | rfl
            · exact .inl (.inl rfl)
            · exact .inl (.inr (.inl rfl))
            · rcases t1 with e | e | e <;> omega
          refine ⟨rfl, [q, r2], HW2.out, ⟨⟨HNUM2.out, .inr (.inr (.inr ⟨h11, q, r2, kv', rfl, (by have e := t6 h11; rw [e] at t2; exact t2), HKB2.out⟩))⟩, HW.out.apx HAP.out hX, fun x hx => ⟨(hX x hx).elim (fun h => (HOW.out x h).1) (fun h => by have := HLW.out.size; omega), ?_⟩, fun hx => ?_⟩, HLW2.out⟩
          · simp only [List.mem_cons, List.not_mem_nil, or_false] at hx
            omega
          · simp only [List.mem_cons, List.not_mem_nil, or_false, Option.mem_toList, not_or] at hx hKN
            rcases t1 with e | e | e <;> omega
    · rw [show begK o true sg lk = newKX false sg 0 by unfold begK; rw [if_pos h0, if_pos rfl]]
      clear h0 HNUM
      generalize hN : newKX false sg 0 = o
      have HN := Lib.hid hN
      clear hN
      have hnew := newGrow_good hsg.1 hsg.2 w
      have HNUM := Lib.hid (show KNum o from by rw [← HN.out]; exact KNum.new false hsg (looks := 0) (by omega))
      have c0 := HKB.out.cell 0
      have c1 := HKB.out.cell 1
      have cf := HKB.out.free
      try simp only [List.getElem?_cons_zero, List.getElem?_cons_succ] at c0 c1
      have z0 := cf 0
      have z1 := cf 1
      clear cf
      go_wp2_with fail
      ((with_reducible refine hnew.mono ?_); rintro e w1 ⟨q, rfl, hq, kq, hb1⟩)
      have HB1 := Lib.hid hb1
      have HKB1 := Lib.hid (HKB.out.below hb1)
      have HW1 := Lib.hid (show TW nt B p b G ly th M w1 from HW.out.onlQ (E := []) HAP.out (HW.out.fm.below hb1) (.of_below hb1) (by simp))
      have hKq : K ≠ q := by have := HKB.out.lt; omega
      have HREP1 := Lib.hid (show GrRep q q o w1 from by rw [← HN.out]; exact .inr (.inl ⟨rfl, .inl rfl, .nilIface, 0, u64_0, by rw [Int.mul_comm] at kq; exact kq⟩))
      have HQ := Lib.hid (⟨hq, kq.lt⟩ : _ ∧ _)
      clear hnew hb1 kq hq c0 c1 z0 z1
      have c0 := HKB1.out.cell 0
      have c1 := HKB1.out.cell 1
      have cf := HKB1.out.free
      try simp only [List.getElem?_cons_zero, List.getElem?_cons_succ] at c0 c1
      have z0 := cf 0
      have z1 := cf 1
      clear cf
      go_upto_region 4 with (fail)
      have HKB2 := Lib.hid (HKB1.out.set 0 (.pointer (some ⟨q, 0, none⟩)) rfl)
      have HLW2 := Lib.hid (show Below B w0 (w1.setCell ⟨K, 0, none⟩ (.pointer (some ⟨q, 0, none⟩))) from (HLW.out.trans (HB1.out.mono (Nat.le_trans hBw HLW.out.size))).setCell (p := ⟨K, 0, none⟩) hBK _)
      have HW2 := Lib.hid (HW1.out.setK hB HAP.out (by simp) hBK 0 (.pointer (some ⟨q, 0, none⟩)))
      have hsame : (w1.setCell ⟨K, 0, none⟩ (.pointer (some ⟨q, 0, none⟩))).heap[q]? = w1.heap[q]? := Below.heap_setCell w1 ⟨K, 0, none⟩ _ q (Ne.symm hKq)
      have HREP := Lib.hid (HREP1.out.same hsame hsame)
      have HAP2 := Lib.hid (show Apx ([K, q, q]) p b G nt ly from HW.out.apx HAP.out (fun x hx => by
        simp only [List.mem_cons, List.not_mem_nil, or_false] at hx ⊢
        have := HQ.out.1
        omega))
      have HOW2 := Lib.hid (show ∀ x ∈ [K, q, q], B ≤ x ∧ x < (w1.setCell ⟨K, 0, none⟩ (.pointer (some ⟨q, 0, none⟩))).heap.size from fun x hx => by
        simp only [List.mem_cons, List.not_mem_nil, or_false] at hx
        have h1 := HQ.out
        have h2 := HLW.out.size
        have h3 : (w1.setCell ⟨K, 0, none⟩ (.pointer (some ⟨q, 0, none⟩))).heap.size = w1.heap.size := by simp [World.setCell]
        have h4 := HKB2.out.lt
        rcases (show x = K ∨ x = q by omega) with h | h
        · rw [h]; exact ⟨hBK, h4⟩
        · rw [h]; exact ⟨by omega, by omega⟩)
      have HKN2 := Lib.hid (show K ∉ [q, q] from by simp [hKq])
      clear HW HAP HOW HKN HKB HLW HREP1 HW1 HKB1 HB1 HQ hsame c0 c1 z0 z1 hKq
      revert HKB2 HLW2 HW2 HREP HOW2
      generalize w1.setCell ⟨K, 0, none⟩ (.pointer (some ⟨q, 0, none⟩)) = w9
      intro HKB HLW HW HREP HOW
      have HAP := HAP2
      have HKN := HKN2
      clear HAP2 HKN2
      have c0 := HKB.out.cell 0
      have c1 := HKB.out.cell 1
      have cf := HKB.out.free
      try simp only [List.getElem?_cons_zero, List.getElem?_cons_succ] at c0 c1
      have z0 := cf 0
      have z1 := cf 1
      clear cf
      have hq1 : 1 < q := by have := (HOW.out q (by simp)).1; omega
      have hr1 : 1 < q := by have := (HOW.out q (by simp)).1; omega
      go_wp2_with fail
      ((with_reducible refine (grow_stepX hq1 hr1 HW.out.fm hs HNUM.out HREP.out HREP.out.sh).mono ?_); rintro e w2 ⟨rfl, r', k1, k2, k3, k4⟩)
      have HNUM2 := Lib.hid (HNUM.out.step HW.out.fm.u64)
      have HW2 := Lib.hid (HW.out.onlQ HAP.out k2 k3 (fun x hx => List.mem_cons_of_mem _ hx))
      have HKB2 := Lib.hid (HKB.out.onl k3 (HAP.out.ne K (by simp)).1 (HAP.out.ne K (by simp)).2.1 HKN.out)
      have HLW2 := Lib.hid (k3.lowK HW.out HLW.out hBw (fun x hx => (HOW.out x (List.mem_cons_of_mem _ hx)).1))
      have HSZ := Lib.hid k3.size
      obtain ⟨r2, t1, t2, t3, t4⟩ := k1.tidy
      have HT := Lib.hid (⟨t1, t2, t3, t4⟩ : _ ∧ _ ∧ _ ∧ _)
      have HK4 := Lib.hid k4
      clear t1 t2 t3 t4 k1 k2 k3 k4 c0 c1 z0 z1 HKB
      have c0 := HKB2.out.cell 0
      have c1 := HKB2.out.cell 1
      have cf := HKB2.out.free
      try simp only [List.getElem?_cons_zero, List.getElem?_cons_succ] at c0 c1
      have z0 := cf 0
      have z1 := cf 1
      clear cf
      by_cases hz : (kX o M).1.k.ln = 0
      · rw [hz]
        have HZ := Lib.hid hz
        clear hz
        go_wp2_with fail
        ((try simp only [Exit.inBlock, Exit.then]); first | go_end0 | refine bodyPost_ret (results_none rfl _ _ _) rfl ?_)
        have hset := HKB2.out.set 0 (.pointer none) rfl
        refine ⟨rfl, [], HW2.out.setK hB HAP.out (by simp) (HOW.out K (by simp)).1 0 (.pointer none), ⟨⟨HNUM2.out, .inl ⟨HZ.out, rfl, hset⟩⟩, HW.out.apx HAP.out (fun x hx => .inl (by simp at hx; simp [hx])), fun x hx => ?_, by simp⟩, HLW2.out.setCell (p := ⟨K, 0, none⟩) (HOW.out K (by simp)).1 _⟩
        rw [show x = K by simpa using hx]
        exact ⟨(HOW.out K (by simp)).1, hset.lt⟩
      · have HZ := Lib.hid hz
        have hzb := fls hz
        rw [hzb]
        clear hz hzb
        go_wp2_with fail
        ((try simp only [Exit.inBlock, Exit.then]); first | go_end0 | refine bodyPost_ret (results_none rfl _ _ _) rfl ?_)
        obtain ⟨t1, t2, t3, t4⟩ := HT.out
        have k4 := HK4.out
        have hX : ∀ x ∈ [K, q, r2], x ∈ [K, q, q] ∨ w9.heap.size ≤ x := fun x hx => by
          simp only [List.mem_cons, List.not_mem_nil, or_false] at hx ⊢
          omega
        have hKs := (HOW.out K (by simp)).2
        refine ⟨rfl, [q, r2], HW2.out, ⟨⟨HNUM2.out, .inr (.inl ⟨HZ.out, q, r2, rfl, t2, HKB2.out⟩)⟩, HW.out.apx HAP.out hX, fun x hx => ⟨(hX x hx).elim (fun h => (HOW.out x h).1) (fun h => by have := HLW.out.size; omega), ?_⟩, fun hx => ?_⟩, HLW2.out⟩
        · simp only [List.mem_cons, List.not_mem_nil, or_false] at hx
          have := HKB2.out.lt
          omega
        · have h1 := HKN.out
          simp only [List.mem_cons, List.not_mem_nil, or_false, not_or] at hx h1
          omega
  · have HKB := Lib.hid hkb
    have HREP := Lib.hid hrep
    rw [show begK o gr sg lk = o by unfold begK; rw [if_neg h0]]
    clear h0 hkb hrep
    have c0 := HKB.out.cell 0
    have c1 := HKB.out.cell 1
    have cf := HKB.out.free
    try simp only [List.getElem?_cons_zero, List.getElem?_cons_succ] at c0 c1
    have z0 := cf 0
    have z1 := cf 1
    clear cf
    have hq1 : 1 < q := by have := (HOW.out q (by simp)).1; omega
    have hr1 : 1 < r := by have := (HOW.out r (by simp)).1; omega
    go_wp2_with fail
    ((with_reducible refine (grow_stepX hq1 hr1 HW.out.fm hs HNUM.out HREP.out HREP.out.sh).mono ?_); rintro e w2 ⟨rfl, r', k1, k2, k3, k4⟩)
    have HNUM2 := Lib.hid (HNUM.out.step HW.out.fm.u64)
    have HW2 := Lib.hid (HW.out.onlQ HAP.out k2 k3 (fun x hx => List.mem_cons_of_mem _ hx))
    have HKB2 := Lib.hid (HKB.out.onl k3 (HAP.out.ne K (by simp)).1 (HAP.out.ne K (by simp)).2.1 HKN.out)
    have HLW2 := Lib.hid (k3.lowK HW.out HLW.out hBw (fun x hx => (HOW.out x (List.mem_cons_of_mem _ hx)).1))
    have HSZ := Lib.hid k3.size
    obtain ⟨r2, t1, t2, t3, t4⟩ := k1.tidy
    have HT := Lib.hid (⟨t1, t2, t3, t4⟩ : _ ∧ _ ∧ _ ∧ _)
    have HK4 := Lib.hid k4
    clear t1 t2 t3 t4 k1 k2 k3 k4 c0 c1 z0 z1 HKB
    have c0 := HKB2.out.cell 0
    have c1 := HKB2.out.cell 1
    have cf := HKB2.out.free
    try simp only [List.getElem?_cons_zero, List.getElem?_cons_succ] at c0 c1
    have z0 := cf 0
    have z1 := cf 1
    clear cf
    by_cases hz : (kX o M).1.k.ln = 0
    · rw [hz]
      have HZ := Lib.hid hz
      clear hz
      go_wp2_with fail
      ((try simp only [Exit.inBlock, Exit.then]); first | go_end0 | refine bodyPost_ret (results_none rfl _ _ _) rfl ?_)
      have hset := HKB2.out.set 0 (.pointer none) rfl
      refine ⟨rfl, [], HW2.out.setK hB HAP.out (by simp) (HOW.out K (by simp)).1 0 (.pointer none), ⟨⟨HNUM2.out, .inl ⟨HZ.out, rfl, hset⟩⟩, HW.out.apx HAP.out (fun x hx => .inl (by simp at hx; simp [hx])), fun x hx => ?_, by simp⟩, HLW2.out.setCell (p := ⟨K, 0, none⟩) (HOW.out K (by simp)).1 _⟩
      rw [show x = K by simpa using hx]
      exact ⟨(HOW.out K (by simp)).1, hset.lt⟩
    · have HZ := Lib.hid hz
      have hzb := fls hz
      rw [hzb]
      clear hz hzb
      go_wp2_with fail
      ((try simp only [Exit.inBlock, Exit.then]); first | go_end0 | refine bodyPost_ret (results_none rfl _ _ _) rfl ?_)
      obtain ⟨t1, t2, t3, t4⟩ := HT.out
      have k4 := HK4.out
      have hX : ∀ x ∈ [K, q, r2], x ∈ [K, q, r] ∨ w.heap.size ≤ x := fun x hx => by
        simp only [List.mem_cons, List.not_mem_nil, or_false] at hx ⊢
        omega
      have hKs := (HOW.out K (by simp)).2
      refine ⟨rfl, [q, r2], HW2.out, ⟨⟨HNUM2.out, .inr (.inl ⟨HZ.out, q, r2, rfl, t2, HKB2.out⟩)⟩, HW.out.apx HAP.out hX, fun x hx => ⟨(hX x hx).elim (fun h => (HOW.out x h).1) (fun h => by have := HLW.out.size; omega), ?_⟩, fun hx => ?_⟩, HLW2.out⟩
      · simp only [List.mem_cons, List.not_mem_nil, or_false] at hx
        have := HKB2.out.lt
        omega
      · have h1 := HKN.out
        simp only [List.mem_cons, List.not_mem_nil, or_false, not_or] at hx h1
        omega
  · have HKB := Lib.hid hkb
    have HREP := Lib.hid hrep
    rw [show begK o gr sg lk = o by unfold begK; rw [if_neg h0]]
    clear h0 h8 hkb hrep
    have c0 := HKB.out.cell 0
    have c1 := HKB.out.cell 1
    have cf := HKB.out.free
    try simp only [List.getElem?_cons_zero, List.getElem?_cons_succ] at c0 c1
    have z0 := cf 0
    have z1 := cf 1
    clear cf
    have hq1 : 1 < q := by have := (HOW.out q (by simp)).1; omega
    have hr1 : 1 < r := by have := (HOW.out r (by simp)).1; omega
    have hr2 : 1 < r1 := by have := (HOW.out r1 (by simp)).1; omega
    go_wp2_with fail
    ((with_reducible refine (shrink_stepX hq1 hr1 hr2 hB (Nat.le_trans hBw HLW.out.size) HW.out.fm hs HNUM.out HREP.out.sh HREP.out).mono ?_); rintro e w2 ⟨rfl, r', r1', kv', k1, k2, k3, k4, k5, k6⟩)
    have HNUM2 := Lib.hid (HNUM.out.step HW.out.fm.u64)
    have HW2 := Lib.hid (HW.out.onlQ HAP.out k2 k3 (fun x hx => List.mem_cons_of_mem _ hx))
    have HKB2 := Lib.hid (HKB.out.onl k3 (HAP.out.ne K (by simp)).1 (HAP.out.ne K (by simp)).2.1 HKN.out)
    have HLW2 := Lib.hid (k3.lowK HW.out HLW.out hBw (fun x hx => (HOW.out x (List.mem_cons_of_mem _ hx)).1))
    have HSZ := Lib.hid k3.size
    obtain ⟨r2, r3, t1, t5, t6, t2, t3, t4, t7⟩ := k1.tidy
    have HT := Lib.hid (⟨t1, t5, t6, t2, t3, t4, t7⟩ : _ ∧ _ ∧ _ ∧ _ ∧ _ ∧ _ ∧ _)
    have HK4 := Lib.hid (⟨k4, k5, k6⟩ : _ ∧ _ ∧ _)
    clear t1 t2 t3 t4 t5 t6 t7 k1 k2 k3 k4 k5 k6 c0 c1 z0 z1 HKB
    have c0 := HKB2.out.cell 0
    have c1 := HKB2.out.cell 1
    have cf := HKB2.out.free
    try simp only [List.getElem?_cons_zero, List.getElem?_cons_succ] at c0 c1
    have z0 := cf 0
    have z1 := cf 1
    clear cf
    by_cases hz : (kX o M).1.k.ln = 0
    · rw [hz]
      have HZ := Lib.hid hz
      clear hz
      go_wp2_with fail
      ((try simp only [Exit.inBlock, Exit.then]); first | go_end0 | refine bodyPost_ret (results_none rfl _ _ _) rfl ?_)
      have hset := HKB2.out.set 1 (.pointer none) rfl
      refine ⟨rfl, [], HW2.out.setK hB HAP.out (by simp) (HOW.out K (by simp)).1 1 (.pointer none), ⟨⟨HNUM2.out, .inl ⟨HZ.out, rfl, hset⟩⟩, HW.out.apx HAP.out (fun x hx => .inl (by simp at hx; simp [hx])), fun x hx => ?_, by simp⟩, HLW2.out.setCell (p := ⟨K, 1, none⟩) (HOW.out K (by simp)).1 _⟩
      rw [show x = K by simpa using hx]
      exact ⟨(HOW.out K (by simp)).1, hset.lt⟩
    · have HZ := Lib.hid hz
      have hzb := fls hz
      rw [hzb]
      clear hz hzb
      go_wp2_with fail
      ((try simp only [Exit.inBlock, Exit.then]); first | go_end0 | refine bodyPost_ret (results_none rfl _ _ _) rfl ?_)
      obtain ⟨t1, t5, t6, t2, t3, t4, t7⟩ := HT.out
      obtain ⟨k4, k5, k6⟩ := HK4.out
      have hKs := (HOW.out K (by simp)).2
      have hKN := HKN.out
      have hKl := HKB2.out.lt
      by_cases h8 : (kX o M).1.k.ln ≤ 8
      · have hkv : ∀ g, kv'.ownBlock = some g → (kv.ownBlock = some g ∨ w.heap.size ≤ g) ∧ g < w2.heap.size := fun g hg => ⟨k6.elim (fun h => .inl (h.symm.trans hg)) (fun ⟨g', h1, h2⟩ => .inr (by rw [h1] at hg; injection hg with hg; omega)), (t2.kv_lt HZ.out h8 hg).2⟩
        have hX : ∀ x ∈ K :: q :: r2 :: r3 :: kv'.ownBlock.toList, (x ∈ K :: q :: r :: r1 :: kv.ownBlock.toList ∨ w.heap.size ≤ x) ∧ x < w2.heap.size := fun x hx => by
          simp only [List.mem_cons, Option.mem_toList] at hx ⊢
          rcases hx with rfl | rfl | h | h | h
          · exact ⟨.inl (.inl rfl), hKl⟩
          · exact ⟨.inl (.inr (.inl rfl)), t3⟩
          · exact ⟨by rcases t1 with e | e | e <;> omega, by omega⟩
          · exact ⟨by rcases t5 with e | e | e <;> omega, by omega⟩
          · exact ⟨(hkv x h).1.imp (fun h => .inr (.inr (.inr (.inr h)))) id, (hkv x h).2⟩
        refine ⟨rfl, q :: r2 :: r3 :: kv'.ownBlock.toList, HW2.out, ⟨⟨HNUM2.out, .inr (.inr (.inl ⟨HZ.out, h8, q, r2, r3, kv', rfl, t2, HKB2.out⟩))⟩, HW.out.apx HAP.out (fun x hx => (hX x hx).1), fun x hx => ⟨(hX x hx).1.elim (fun h => (HOW.out x h).1) (fun h => by have := HLW.out.size; omega), (hX x hx).2⟩, fun hx => ?_⟩, HLW2.out⟩
        simp only [List.mem_cons, Option.mem_toList, not_or] at hx hKN
        rcases hx with h | h | h | h
        · omega
        · rcases t1 with e | e | e <;> omega
        · rcases t5 with e | e | e <;> omega
        · rcases (hkv K h).1 with h | h
          · exact hKN.2.2.2 h
          · omega
      · have h11 : 11 ≤ (kX o M).1.k.ln := by have := HNUM2.out.ln; omega
        have hX : ∀ x ∈ [K, q, r2], x ∈ K :: q :: r :: r1 :: kv.ownBlock.toList ∨ w.heap.size ≤ x := fun x hx => by
          simp only [List.mem_cons, List.not_mem_nil, or_false, Option.mem_toList] at hx ⊢
          rcases hx with rfl | rfl | rfl
          · exact .inl (.inl rfl)
          · exact .inl (.inr (.inl rfl))
          · rcases t1 with e | e | e <;> omega
        refine ⟨rfl, [q, r2], HW2.out, ⟨⟨HNUM2.out, .inr (.inr (.inr ⟨h11, q, r2, kv', rfl, (by have e := t6 h11; rw [e] at t2; exact t2), HKB2.out⟩))⟩, HW.out.apx HAP.out hX, fun x hx => ⟨(hX x hx).elim (fun h => (HOW.out x h).1) (fun h => by have := HLW.out.size; omega), ?_⟩, fun hx => ?_⟩, HLW2.out⟩
        · simp only [List.mem_cons, List.not_mem_nil, or_false] at hx
          omega
        · simp only [List.mem_cons, List.not_mem_nil, or_false, Option.mem_toList, not_or] at hx hKN
          rcases t1 with e | e | e <;> omega
  · have HKB := Lib.hid hkb
    have HREP := Lib.hid hrep
    have h0 : o.k.ln ≠ 0 := by omega
    have HLN := Lib.hid h11
    rw [show begK o gr sg lk = o by unfold begK; rw [if_neg h0]]
    clear h0 h11 hkb hrep
    have c0 := HKB.out.cell 0
    have c1 := HKB.out.cell 1
    have cf := HKB.out.free
    try simp only [List.getElem?_cons_zero, List.getElem?_cons_succ] at c0 c1
    have z0 := cf 0
    have z1 := cf 1
    clear cf
    have hq1 : 1 < q := by have := (HOW.out q (by simp)).1; omega
    have hr1 : 1 < r := by have := (HOW.out r (by simp)).1; omega
    go_wp2_with fail
    ((with_reducible refine (shrink_turn9 hq1 hr1 HW.out.fm hs HNUM.out HLN.out HREP.out).mono ?_); rintro e w2 ⟨rfl, k0, r', k1, k2, k3, k4⟩)
    have HNUM2 := Lib.hid (HNUM.out.step HW.out.fm.u64)
    have HW2 := Lib.hid (HW.out.onlQ HAP.out k2 k3 (fun x hx => List.mem_cons_of_mem _ hx))
    have HKB2 := Lib.hid (HKB.out.onl k3 (HAP.out.ne K (by simp)).1 (HAP.out.ne K (by simp)).2.1 HKN.out)
    have HLW2 := Lib.hid (k3.lowK HW.out HLW.out hBw (fun x hx => (HOW.out x (List.mem_cons_of_mem _ hx)).1))
    have HSZ := Lib.hid k3.size
    obtain ⟨r2, r3, t1, t5, t6, t2, t3, t4, _⟩ := k1.tidy
    have HT := Lib.hid (⟨t1, t6, t2, t3, t4⟩ : _ ∧ _ ∧ _ ∧ _ ∧ _)
    have HK4 := Lib.hid (⟨k0, k4⟩ : _ ∧ _)
    clear t1 t2 t3 t4 t5 t6 k0 k1 k2 k3 k4 c0 c1 z0 z1 HKB
    have c0 := HKB2.out.cell 0
    have c1 := HKB2.out.cell 1
    have cf := HKB2.out.free
    try simp only [List.getElem?_cons_zero, List.getElem?_cons_succ] at c0 c1
    have z0 := cf 0
    have z1 := cf 1
    clear cf
    by_cases hz : (kX o M).1.k.ln = 0
    · rw [hz]
      have HZ := Lib.hid hz
      clear hz
      go_wp2_with fail
      ((try simp only [Exit.inBlock, Exit.then]); first | go_end0 | refine bodyPost_ret (results_none rfl _ _ _) rfl ?_)
      have hset := HKB2.out.set 1 (.pointer none) rfl
      refine ⟨rfl, [], HW2.out.setK hB HAP.out (by simp) (HOW.out K (by simp)).1 1 (.pointer none), ⟨⟨HNUM2.out, .inl ⟨HZ.out, rfl, hset⟩⟩, HW.out.apx HAP.out (fun x hx => .inl (by simp at hx; simp [hx])), fun x hx => ?_, by simp⟩, HLW2.out.setCell (p := ⟨K, 1, none⟩) (HOW.out K (by simp)).1 _⟩
      rw [show x = K by simpa using hx]
      exact ⟨(HOW.out K (by simp)).1, hset.lt⟩
    · have HZ := Lib.hid hz
      have hzb := fls hz
      rw [hzb]
      clear hz hzb
      go_wp2_with fail
      ((try simp only [Exit.inBlock, Exit.then]); first | go_end0 | refine bodyPost_ret (results_none rfl _ _ _) rfl ?_)
      obtain ⟨t1, t6, t2, t3, t4⟩ := HT.out
      obtain ⟨k0, k4⟩ := HK4.out
      have h11 : 11 ≤ (kX o M).1.k.ln := k0.resolve_left HZ.out
      have hX : ∀ x ∈ [K, q, r2], x ∈ [K, q, r] ∨ w.heap.size ≤ x := fun x hx => by
        simp only [List.mem_cons, List.not_mem_nil, or_false] at hx ⊢
        omega
      have hKs := (HOW.out K (by simp)).2
      refine ⟨rfl, [q, r2], HW2.out, ⟨⟨HNUM2.out, .inr (.inr (.inr ⟨h11, q, r2, kv, rfl, (by have e := t6 h11; rw [e] at t2; exact t2), HKB2.out⟩))⟩, HW.out.apx HAP.out hX, fun x hx => ⟨(hX x hx).elim (fun h => (HOW.out x h).1) (fun h => by have := HLW.out.size; omega), ?_⟩, fun hx => ?_⟩, HLW2.out⟩
      · simp only [List.mem_cons, List.not_mem_nil, or_false] at hx
        have := HKB2.out.lt
        omega
      · have h1 := HKN.out
        simp only [List.mem_cons, List.not_mem_nil, or_false, not_or] at hx h1
        omega
end
end Go.Proofs.YtmjcbjcnmgleaaaGreatDoor
