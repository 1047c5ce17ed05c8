/-
  The program's list and the document's side by side; condition: what the package does.
-/
import Derived.Test.YthcclgnadhcndaaRS2
namespace Go.Proofs.Ythcclgnadhcndaa
open Go.RowKit Go.Maps

/-- The program's list says l, the document's m; both made since, apart. -/
structure JR (W : World) (q : Nat) (fp : List Nat) (K : Nat) (v : Value) (l m : List EP) (w : World) : Prop where
  s : SR W q fp l w
  d : DL W.heap.size K v m w
  kw : W.heap.size ≤ K
  ap : K ∉ fp
  av : ∀ x, v.ownBlock = some x → x ∉ fp
section
variable {W w w' : World} {q K : Nat} {fp fp' : List Nat} {l l' m m' xs : List EP} {v v' vo vg : Value} {bs : List Bool}
theorem JR.below (h : JR W q fp K v l m w) (hb : Below w.heap.size w w') : JR W q fp K v l m w' := ⟨h.s.below hb, h.d.below hb, h.kw, h.ap, h.av⟩
theorem JR.pnx (h : JR W q fp K v l m w) (s : SR W q fp' l' w') (hf : ∀ x ∈ fp', x ∈ fp ∨ w.heap.size ≤ x) (k : Kp fp w w') : JR W q fp' K v l' m w' := by
  refine ⟨s, h.d.keep k h.ap h.av, h.kw, fun hm => ?_, fun x hx hm => ?_⟩
  · have := h.d.k.lt
    rcases hf K hm with k | k
    · exact h.ap k
    · omega
  · have := h.d.row.lt hx
    rcases hf x hm with k | k
    · exact h.av x hx k
    · omega
theorem JR.dnx (h : JR W q fp K v l m w) (d : DL W.heap.size K v' m' w') (k : Kp (K :: v.ownBlock.toList) w w') (hv : v'.ownBlock = v.ownBlock ∨ ∀ x, v'.ownBlock = some x → w.heap.size ≤ x) : JR W q fp K v' l m' w' := by
  have hE : ∀ x ∈ K :: v.ownBlock.toList, W.heap.size ≤ x := fun x hx => by
    rcases List.mem_cons.1 hx with rfl | hx
    · exact h.kw
    · exact (h.d.row.bq (by simpa using hx)).1
  have hn : ∀ y ∈ fp, y ∉ K :: v.ownBlock.toList := fun y hy hm => by
    rcases List.mem_cons.1 hm with rfl | hm
    · exact h.ap hy
    · exact h.av y (by simpa using hm) hy
  refine ⟨⟨h.s.low.trans (k.below hE h.s.low.size), h.s.p.same fun y hy => k.block y (h.s.p.lt y hy) (hn y hy), h.s.lo⟩, d, h.kw, h.ap, fun x hx hm => ?_⟩
  rcases hv with hv | hv
  · exact h.av x (hv ▸ hx) hm
  · have := hv x hx
    have := h.s.p.lt x hm
    omega
theorem JR.new {ZL : List Value} (h : SR W q fp [] w) (hz : W.heap.size ≤ w.heap.size) {X : World} (hX : w.alloc (.cells #[.slice none 0 0] 28) = X) (_hZ : ZL = []) : JR W q fp w.heap.size (.slice none 0 0) [] [] X := by
  subst hX
  exact ⟨h.below ((Below.refl _ _).alloc (Nat.le_refl _) _), ⟨Bq.new w [.slice none 0 0] _, OwnE.nil _ _⟩, hz, fun hm => Nat.lt_irrefl _ (h.p.lt _ hm), fun _ h => by cases h⟩
theorem JR.padd (h : JR W q fp K v l m w) (hl : l.length < 1000) (es eg eb ec ed : Int) (ek : Bool) (hk : RP.ok ⟨es, eg, ek⟩) : Calls Try.prog 13 #[.pointer (some ⟨q, 0, none⟩), .agg #[.int .i64 es, .int .u32 eg, .bool ek, .int .u64 eb, .int .u64 ec, .int .u64 ed]] w fun e w' => e = .returned (.int .i64 (addN l ⟨es, eg, ek, eb, ec, ed⟩)) ∧ ∃ fp', JR W q fp' K v (addE l ⟨es, eg, ek, eb, ec, ed⟩) m w' := by
  refine (h.s.add hl es eg eb ec ed ek hk).mono ?_
  rintro e w' ⟨rfl, fp', s, hf, k⟩
  exact ⟨rfl, fp', h.pnx s hf k⟩
theorem JR.dadd {A : Option Addr} {n c : Nat} (h : JR W q fp K (.slice A n c) l m w) (hn : n < 1000) (es eg eb ec ed : Int) (ek : Bool) : Calls Try.prog 14 #[.pointer (some ⟨K, 0, none⟩), .agg #[.int .i64 es, .int .u32 eg, .bool ek, .int .u64 eb, .int .u64 ec, .int .u64 ed]] w fun e w' => e = .returned (.int .i64 (addN m ⟨es, eg, ek, eb, ec, ed⟩)) ∧ ∃ A' c', JR W q fp K (.slice A' (addE m ⟨es, eg, ek, eb, ec, ed⟩).length c') l (addE m ⟨es, eg, ek, eb, ec, ed⟩) w' := by
  refine (docAdd h.d h.s.low.size hn es eg eb ec ed ek).mono ?_
  rintro e w' ⟨rfl, v', d, k, hv⟩
  obtain ⟨A', c', rfl, _⟩ := d.row.slice
  refine ⟨rfl, A', c', h.dnx d k ?_⟩
  rcases hv with hv | ⟨x, hx, hs⟩
  · exact .inl hv
  · exact .inr fun y hy => by rw [hx] at hy; injection hy with hy; omega
theorem JR.len0 (h : JR W q fp K v [] m w) : Calls Try.prog 16 #[.pointer (some ⟨q, 0, none⟩)] w fun e w' => e = .returned (.int .i64 0) ∧ JR W q fp K v [] m w' := by
  refine h.s.len.mono ?_
  rintro e w' ⟨rfl, _, hb⟩
  exact ⟨rfl, h.below hb⟩
theorem JR.all0 (h : JR W q fp K v [] m w) : Calls Try.prog 15 #[.pointer (some ⟨q, 0, none⟩)] w fun e w' => ∃ A c, e = .returned (.slice A 0 c) ∧ JR W q fp K v [] m w' := by
  refine (h.s.all (by decide)).mono ?_
  rintro e w' ⟨A, c, rfl, _, _, hb, _⟩
  exact ⟨A, c, rfl, h.below hb⟩
theorem JR.sweep0 (h : JR W q fp K v [] m w) (hb : BoolV w vg bs) : Calls Try.prog 9 #[.pointer (some ⟨q, 0, none⟩), vg] w fun e w' => ∃ A c fp', e = .returned (.slice A 0 c) ∧ JR W q fp' K v [] m w' := by
  refine (h.s.sweep (by decide) hb).mono ?_
  rintro e w' ⟨A, c, fp', rfl, _, s, hf, k, _⟩
  exact ⟨A, c, fp', rfl, h.pnx s hf k⟩
theorem JR.padd1 (h : JR W q fp K v l m w) (hl : l.length < 1000) {es eg eb ec ed N : Int} {ek : Bool} (hk : RP.ok ⟨es, eg, ek⟩) (hN : addN l ⟨es, eg, ek, eb, ec, ed⟩ = N) (hE : addE l ⟨es, eg, ek, eb, ec, ed⟩ = l') : Calls Try.prog 13 #[.pointer (some ⟨q, 0, none⟩), .agg #[.int .i64 es, .int .u32 eg, .bool ek, .int .u64 eb, .int .u64 ec, .int .u64 ed]] w fun e w' => e = .returned (.int .i64 N) ∧ ∃ fp', JR W q fp' K v l' m w' := by
  subst hN hE
  exact h.padd hl es eg eb ec ed ek hk
theorem JR.dadd1 {A : Option Addr} {n c : Nat} (h : JR W q fp K (.slice A n c) l m w) (hn : n < 1000) {es eg eb ec ed N : Int} {ek : Bool} (hN : addN m ⟨es, eg, ek, eb, ec, ed⟩ = N) (hE : addE m ⟨es, eg, ek, eb, ec, ed⟩ = m') : Calls Try.prog 14 #[.pointer (some ⟨K, 0, none⟩), .agg #[.int .i64 es, .int .u32 eg, .bool ek, .int .u64 eb, .int .u64 ec, .int .u64 ed]] w fun e w' => e = .returned (.int .i64 N) ∧ ∃ A' c', JR W q fp K (.slice A' m'.length c') l m' w' := by
  subst hN hE
  exact h.dadd hn es eg eb ec ed ek
theorem same_eq {A B : Option Addr} {n k c d : Nat} {xs ys : List EP} (hx : SeeE w (.slice A n c) xs) (hy : SeeE w (.slice B k d) ys) (hn : n < 100000) (he : xs = ys) : Calls Try.prog 10 #[.slice A n c, .slice B k d] w fun e w' => e = .returned (.bool true) ∧ Below w.heap.size w w' := by
  subst he
  obtain rfl : n = k := hx.len.trans hy.len.symm
  refine (same_any hx hy hn).mono ?_
  rintro e w' ⟨rfl, hb⟩
  exact ⟨by rw [decide_eq_true rfl], hb⟩
end
end Go.Proofs.Ythcclgnadhcndaa
