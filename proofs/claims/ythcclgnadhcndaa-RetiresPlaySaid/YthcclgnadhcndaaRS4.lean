/-
  Both lists, and blocks beside them that no call of theirs turns; condition: what the package does.
-/
import Derived.Test.YthcclgnadhcndaaRS3
import Derived.Test.YthcclgnadhcndaaLParts
namespace Go.Proofs.Ythcclgnadhcndaa
open Go.RowKit Go.Maps

/-- Blocks that lie as they lay. -/
def Fra (Z : List Nat) (w w' : World) : Prop := ∀ z ∈ Z, w'.heap[z]? = w.heap[z]?
/-- Both lists, and blocks beside them. -/
structure JZ (W : World) (q : Nat) (fp : List Nat) (K : Nat) (v : Value) (l m : List EP) (Z : List Nat) (w : World) : Prop where
  j : JR W q fp K v l m w
  z : ∀ z ∈ Z, z < w.heap.size ∧ z ∉ fp ∧ z ≠ K ∧ v.ownBlock ≠ some z
section
variable {W w w' : World} {q K : Nat} {fp fp' : List Nat} {l l' m m' xs : List EP} {v v' vo vg : Value} {bs : List Bool} {Z Z' : List Nat}
theorem JZ.below (h : JZ W q fp K v l m Z w) (hb : Below w.heap.size w w') : JZ W q fp K v l m Z w' ∧ Fra Z w w' := ⟨⟨h.j.below hb, fun z hz => by
  obtain ⟨h1, h2⟩ := h.z z hz
  exact ⟨Nat.lt_of_lt_of_le h1 hb.size, h2⟩⟩, fun z hz => hb.block z (h.z z hz).1⟩
theorem JZ.pnx (h : JZ W q fp K v l m Z w) (s : SR W q fp' l' w') (hf : ∀ x ∈ fp', x ∈ fp ∨ w.heap.size ≤ x) (k : Kp fp w w') : JZ W q fp' K v l' m Z w' ∧ Fra Z w w' := ⟨⟨h.j.pnx s hf k, fun z hz => by
  obtain ⟨h1, h2, h3⟩ := h.z z hz
  refine ⟨Nat.lt_of_lt_of_le h1 k.size, fun hm => ?_, h3⟩
  rcases hf z hm with k | k
  · exact h2 k
  · omega⟩, fun z hz => k.block z (h.z z hz).1 (h.z z hz).2.1⟩
theorem JZ.dnx (h : JZ W q fp K v l m Z w) (d : DL W.heap.size K v' m' w') (k : Kp (K :: v.ownBlock.toList) w w') (hv : v'.ownBlock = v.ownBlock ∨ ∀ x, v'.ownBlock = some x → w.heap.size ≤ x) : JZ W q fp K v' l m' Z w' ∧ Fra Z w w' := ⟨⟨h.j.dnx d k hv, fun z hz => by
  obtain ⟨h1, h2, h3, h4⟩ := h.z z hz
  refine ⟨Nat.lt_of_lt_of_le h1 k.size, h2, h3, fun hm => ?_⟩
  rcases hv with hv | hv
  · exact h4 (hv ▸ hm)
  · have := hv z hm
    omega⟩, fun z hz => by
  obtain ⟨h1, h2, h3, h4⟩ := h.z z hz
  refine k.block z h1 fun hm => ?_
  rcases List.mem_cons.1 hm with e | hm
  · exact h3 e
  · exact h4 (by simpa using hm)⟩
theorem JZ.sub (h : JZ W q fp K v l m Z w) (hZ : ∀ z ∈ Z', z ∈ Z) : JZ W q fp K v l m Z' w := ⟨h.j, fun z hz => h.z z (hZ z hz)⟩
theorem JZ.more (h : JZ W q fp K v l m Z w) (hZ : ∀ z ∈ Z', z ∈ Z ∨ (z < w.heap.size ∧ z ∉ fp ∧ z ≠ K ∧ v.ownBlock ≠ some z)) : JZ W q fp K v l m Z' w := ⟨h.j, fun z hz => by
  rcases hZ z hz with k | k
  · exact h.z z k
  · exact k⟩
theorem OwnE.fra {B : Nat} (h : OwnE w B vo xs) (f : Fra Z w w') (hz : ∀ x, vo.ownBlock = some x → x ∈ Z) : OwnE w' B vo xs := h.same fun x hx => f x (hz x hx)
theorem OwnB.fra {B : Nat} (h : OwnB w B vo bs) (f : Fra Z w w') (hz : ∀ x, vo.ownBlock = some x → x ∈ Z) : OwnB w' B vo bs := h.same fun x hx => f x (hz x hx)
theorem Bq.fra {g : Nat} {t : TypeId} {cs : List Value} (h : Bq g t cs w) (f : Fra Z w w') (hz : g ∈ Z) : Bq g t cs w' := h.same (f g hz)
theorem JZ.padd (h : JZ W q fp K v l m Z w) (hl : l.length < 1000) (es eg eb ec ed : Int) (ek : Bool) (hk : RP.ok ⟨es, eg, ek⟩) : Calls Try.prog 13 #[.pointer (some ⟨q, 0, none⟩), .agg #[.int .i64 es, .int .u32 eg, .bool ek, .int .u64 eb, .int .u64 ec, .int .u64 ed]] w fun e w' => e = .returned (.int .i64 (addN l ⟨es, eg, ek, eb, ec, ed⟩)) ∧ ∃ fp', JZ W q fp' K v (addE l ⟨es, eg, ek, eb, ec, ed⟩) m Z w' ∧ Fra Z w w' := by
  refine (h.j.s.add hl es eg eb ec ed ek hk).mono ?_
  rintro e w' ⟨rfl, fp', s, hf, k⟩
  exact ⟨rfl, fp', h.pnx s hf k⟩
theorem JZ.dadd {A : Option Addr} {n c : Nat} (h : JZ W q fp K (.slice A n c) l m Z w) (hn : n < 1000) (es eg eb ec ed : Int) (ek : Bool) : Calls Try.prog 14 #[.pointer (some ⟨K, 0, none⟩), .agg #[.int .i64 es, .int .u32 eg, .bool ek, .int .u64 eb, .int .u64 ec, .int .u64 ed]] w fun e w' => e = .returned (.int .i64 (addN m ⟨es, eg, ek, eb, ec, ed⟩)) ∧ ∃ A' c', JZ W q fp K (.slice A' (addE m ⟨es, eg, ek, eb, ec, ed⟩).length c') l (addE m ⟨es, eg, ek, eb, ec, ed⟩) Z w' ∧ Fra Z w w' := by
  refine (docAdd h.j.d h.j.s.low.size hn es eg eb ec ed ek).mono ?_
  rintro e w' ⟨rfl, v', d, k, hv⟩
  obtain ⟨A', c', rfl, _⟩ := d.row.slice
  refine ⟨rfl, A', c', h.dnx d k ?_⟩
  rcases hv with hv | ⟨x, hx, hs⟩
  · exact .inl hv
  · exact .inr fun y hy => by rw [hx] at hy; injection hy with hy; omega
/-- The program's sweep: what is out is a block more beside. -/
theorem JZ.psweep (h : JZ W q fp K v l m Z w) (hl : l.length < 1000) (hb : BoolV w vg bs) : Calls Try.prog 9 #[.pointer (some ⟨q, 0, none⟩), vg] w fun e w' => ∃ A c fp', e = .returned (.slice A (outE l (fB bs) l.length).length c) ∧ OwnE w' W.heap.size (.slice A (outE l (fB bs) l.length).length c) (outE l (fB bs) l.length) ∧ JZ W q fp' K v (leftE l (fB bs) l.length) m (Z ++ (Value.slice A (outE l (fB bs) l.length).length c).ownBlock.toList) w' ∧ Fra Z w w' := by
  refine (h.j.s.sweep hl hb).mono ?_
  rintro e w' ⟨A, c, fp', rfl, r, s, hf, k, hfr⟩
  obtain ⟨hz, fr⟩ := h.pnx s hf k
  refine ⟨A, c, fp', rfl, r.own, hz.more fun z hm => ?_, fr⟩
  rcases List.mem_append.1 hm with hm | hm
  · exact .inl hm
  · have hx : (Value.slice A (outE l (fB bs) l.length).length c).ownBlock = some z := by simpa using hm
    have h1 := hfr z hx
    have h2 := h.j.d.k.lt
    refine .inr ⟨r.own.lt hx, r.ap z hx, by omega, fun e => ?_⟩
    have := h.j.d.row.lt e
    omega
/-- The document's sweep. -/
theorem JZ.dsweep {A Ab : Option Addr} {n c nb cb : Nat} (h : JZ W q fp K (.slice A n c) l m Z w) (hn : n < 1000) (hb : BoolV w (.slice Ab nb cb) bs) : Calls Try.prog 11 #[.pointer (some ⟨K, 0, none⟩), .slice Ab nb cb] w fun e w' => ∃ Ao co A' c', e = .returned (.slice Ao (outE m (fB bs) m.length).length co) ∧ SeeE w' (.slice Ao (outE m (fB bs) m.length).length co) (outE m (fB bs) m.length) ∧ JZ W q fp K (.slice A' (leftE m (fB bs) m.length).length c') l (leftE m (fB bs) m.length) Z w' ∧ Fra Z w w' := by
  refine (docSweep h.j.d hb hn).mono ?_
  rintro e w' ⟨vo, vl, rfl, d, ho, _, k⟩
  obtain ⟨A', c', rfl, _⟩ := d.row.slice
  obtain ⟨Ao, co, rfl, _⟩ := ho.slice
  exact ⟨Ao, co, A', c', rfl, ho.see, h.dnx ⟨d.k, d.row.mono h.j.s.low.size⟩ (k.more (by simp)) (.inr fun x hx => (d.row.bq hx).1)⟩
/-- A row beside is spoiled. -/
theorem JZ.spoil (h : JZ W q fp K v l m Z w) (ho : OwnE w W.heap.size vo xs) (hz : ∀ x, vo.ownBlock = some x → x ∈ Z) : Calls Try.prog 12 #[vo] w fun e w' => e = .returned (.tuple #[]) ∧ JZ W q fp K v l m Z w' ∧ ∀ y, y < w.heap.size → vo.ownBlock ≠ some y → w'.heap[y]? = w.heap[y]? := by
  refine (spoil_one ho).mono ?_
  rintro e w' ⟨rfl, hb, hs, hk⟩
  refine ⟨rfl, ⟨⟨⟨h.j.s.low.trans hb, h.j.s.p.same fun y hy => hk y (h.j.s.p.lt y hy) fun e => (h.z y (hz y e)).2.1 hy, h.j.s.lo⟩, h.j.d.same (hk K h.j.d.k.lt fun e => (h.z K (hz K e)).2.2.1 rfl) fun x hx => hk x (h.j.d.row.lt hx) fun e => (h.z x (hz x e)).2.2.2 hx, h.j.kw, h.j.ap, h.j.av⟩, fun z hm => ?_⟩, hk⟩
  obtain ⟨h1, h2⟩ := h.z z hm
  exact ⟨Nat.lt_of_lt_of_le h1 hs, h2⟩
theorem Fra.trans {a b c : World} (h : Fra Z a b) (k : Fra Z b c) : Fra Z a c := fun z hz => (k z hz).trans (h z hz)
theorem JZ.padd1 (h : JZ W q fp K v l m Z w) (hl : l.length < 1000) {es eg eb ec ed N : Int} {ek : Bool} (hk : RP.ok ⟨es, eg, ek⟩) (hN : addN l ⟨es, eg, ek, eb, ec, ed⟩ = N) (hE : addE l ⟨es, eg, ek, eb, ec, ed⟩ = l') : Calls Try.prog 13 #[.pointer (some ⟨q, 0, none⟩), .agg #[.int .i64 es, .int .u32 eg, .bool ek, .int .u64 eb, .int .u64 ec, .int .u64 ed]] w fun e w' => e = .returned (.int .i64 N) ∧ ∃ fp', JZ W q fp' K v l' m Z w' ∧ Fra Z w w' := by
  subst hN hE
  exact h.padd hl es eg eb ec ed ek hk
theorem JZ.dadd1 {A : Option Addr} {n c : Nat} (h : JZ W q fp K (.slice A n c) l m Z w) (hn : n < 1000) {es eg eb ec ed N : Int} {ek : Bool} (hN : addN m ⟨es, eg, ek, eb, ec, ed⟩ = N) (hE : addE m ⟨es, eg, ek, eb, ec, ed⟩ = m') : Calls Try.prog 14 #[.pointer (some ⟨K, 0, none⟩), .agg #[.int .i64 es, .int .u32 eg, .bool ek, .int .u64 eb, .int .u64 ec, .int .u64 ed]] w fun e w' => e = .returned (.int .i64 N) ∧ ∃ A' c', JZ W q fp K (.slice A' m'.length c') l m' Z w' ∧ Fra Z w w' := by
  subst hN hE
  exact h.dadd hn es eg eb ec ed ek
theorem docBorn1 {A : Option Addr} {n c : Nat} {b N : Int} {B : Nat} (h : DL B K (.slice A n c) l w) (hn : n < 1000) (hN : ((bornE l b l.length : Nat) : Int) = N) : Calls Try.prog 18 #[.pointer (some ⟨K, 0, none⟩), .int .u64 b] w fun e w' => e = .returned (.int .i64 N) ∧ Below w.heap.size w w' := by
  subst hN
  exact docBorn h.k h.row.see (by omega)
end
end Go.Proofs.Ythcclgnadhcndaa
