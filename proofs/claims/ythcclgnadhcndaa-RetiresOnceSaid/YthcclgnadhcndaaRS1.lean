/-
  The program's list as a law holds it, rows beside it; condition: what the package does.
-/
import Derived.Test.YthcclgnadhcndaaRK
import Derived.Test.YthcclgnadhcndaaRE3
namespace Go.Proofs.Ythcclgnadhcndaa
open Go.RowKit Go.Maps

/-- The program's list, all of it made since. -/
structure SR (W : World) (q : Nat) (fp : List Nat) (l : List EP) (w : World) : Prop where
  low : Below W.heap.size W w
  p : RRep q fp l w
  lo : ∀ x ∈ fp, W.heap.size ≤ x
/-- A row of its own beside the list. -/
structure RowR (W : World) (fp : List Nat) (v : Value) (xs : List EP) (w : World) : Prop where
  own : OwnE w W.heap.size v xs
  ap : ∀ x, v.ownBlock = some x → x ∉ fp
section
variable {W w w' : World} {q : Nat} {fp fp' : List Nat} {l l' xs : List EP} {v : Value} {bs : List Bool}
theorem SR.below (h : SR W q fp l w) (hb : Below w.heap.size w w') : SR W q fp l w' := ⟨h.low.trans (hb.mono h.low.size), h.p.same fun y hy => hb.block y (h.p.lt y hy), h.lo⟩
theorem SR.nx (h : SR W q fp l w) (k : Kp fp w w') (r : RRep q fp' l' w') (hf : ∀ x ∈ fp', x ∈ fp ∨ w.heap.size ≤ x) : SR W q fp' l' w' := ⟨h.low.trans (k.below h.lo h.low.size), r, fun x hx => by
  have := h.low.size
  rcases hf x hx with k | k
  · exact h.lo x k
  · omega⟩
theorem RowR.below (h : RowR W fp v xs w) (hb : Below w.heap.size w w') : RowR W fp v xs w' := ⟨h.own.below hb, h.ap⟩
theorem RowR.nx (h : RowR W fp v xs w) (k : Kp fp w w') (hf : ∀ x ∈ fp', x ∈ fp ∨ w.heap.size ≤ x) : RowR W fp' v xs w' := ⟨h.own.same fun g hg => k.block g (h.own.lt hg) (h.ap g hg), fun x hx hm => by
  have := h.own.lt hx
  rcases hf x hm with k | k
  · exact h.ap x hx k
  · omega⟩
theorem SR.new (hW : Below W.heap.size W w) : Calls Try.prog 8 #[] w fun e w' => ∃ q fp, e = .returned (.pointer (some ⟨q, 0, none⟩)) ∧ SR W q fp [] w' ∧ Below w.heap.size w w' ∧ ∀ x ∈ fp, w.heap.size ≤ x := by
  refine (new_all w).mono ?_
  rintro e w' ⟨q, fp, rfl, h, hf, hb⟩
  have := hW.size
  exact ⟨q, fp, rfl, ⟨hW.trans (hb.mono hW.size), h, fun x hx => by have := hf x hx; omega⟩, hb, hf⟩
theorem SR.add (h : SR W q fp l w) (hl : l.length < 1000) (es eg eb ec ed : Int) (ek : Bool) (hk : RP.ok ⟨es, eg, ek⟩) : Calls Try.prog 13 #[.pointer (some ⟨q, 0, none⟩), .agg #[.int .i64 es, .int .u32 eg, .bool ek, .int .u64 eb, .int .u64 ec, .int .u64 ed]] w fun e w' => e = .returned (.int .i64 (addN l ⟨es, eg, ek, eb, ec, ed⟩)) ∧ ∃ fp', SR W q fp' (addE l ⟨es, eg, ek, eb, ec, ed⟩) w' ∧ (∀ x ∈ fp', x ∈ fp ∨ w.heap.size ≤ x) ∧ Kp fp w w' := by
  refine (add_all h.p hl es eg eb ec ed ek hk).mono ?_
  rintro e w' ⟨rfl, fp', r, hf, k⟩
  exact ⟨rfl, fp', h.nx k r hf, hf, k⟩
theorem SR.all (h : SR W q fp l w) (hl : l.length < 1000) : Calls Try.prog 15 #[.pointer (some ⟨q, 0, none⟩)] w fun e w' => ∃ A c, e = .returned (.slice A l.length c) ∧ RowR W fp (.slice A l.length c) l w' ∧ SR W q fp l w' ∧ Below w.heap.size w w' ∧ (∀ x, (Value.slice A l.length c).ownBlock = some x → w.heap.size ≤ x) := by
  refine (all_all h.p hl).mono ?_
  rintro e w' ⟨v, rfl, ho, hb⟩
  obtain ⟨A, c, rfl, _⟩ := ho.slice
  exact ⟨A, c, rfl, ⟨ho.mono h.low.size, fun x hx hm => by
    have := (ho.bq hx).1
    have := h.p.lt x hm
    omega⟩, h.below hb, hb, fun x hx => (ho.bq hx).1⟩
theorem SR.len (h : SR W q fp l w) : Calls Try.prog 16 #[.pointer (some ⟨q, 0, none⟩)] w fun e w' => e = .returned (.int .i64 (l.length : Nat)) ∧ SR W q fp l w' ∧ Below w.heap.size w w' := by
  refine (len_all h.p).mono ?_
  rintro e w' ⟨rfl, hb⟩
  exact ⟨rfl, h.below hb, hb⟩
theorem SR.born (h : SR W q fp l w) (hl : l.length < 1000) (b : Int) : Calls Try.prog 17 #[.pointer (some ⟨q, 0, none⟩), .int .u64 b] w fun e w' => e = .returned (.int .i64 (bornE l b l.length : Nat)) ∧ SR W q fp l w' ∧ Below w.heap.size w w' := by
  refine (born_all h.p hl b).mono ?_
  rintro e w' ⟨rfl, hb⟩
  exact ⟨rfl, h.below hb, hb⟩
theorem SR.sweep (h : SR W q fp l w) (hl : l.length < 1000) (hb : BoolV w v bs) : Calls Try.prog 9 #[.pointer (some ⟨q, 0, none⟩), v] w fun e w' => ∃ A c fp', e = .returned (.slice A (outE l (fB bs) l.length).length c) ∧ RowR W fp' (.slice A (outE l (fB bs) l.length).length c) (outE l (fB bs) l.length) w' ∧ SR W q fp' (leftE l (fB bs) l.length) w' ∧ (∀ x ∈ fp', x ∈ fp ∨ w.heap.size ≤ x) ∧ Kp fp w w' ∧ (∀ x, (Value.slice A (outE l (fB bs) l.length).length c).ownBlock = some x → w.heap.size ≤ x) := by
  refine (sweep_all h.p hl hb).mono ?_
  rintro e w' ⟨vo, fp', rfl, ho, r, hf, ha, k⟩
  obtain ⟨A, c, rfl, _⟩ := ho.slice
  exact ⟨A, c, fp', rfl, ⟨ho.mono h.low.size, ha⟩, h.nx k r hf, hf, k, fun x hx => (ho.bq hx).1⟩
end
theorem InvR.len {l : List EP} (_I : InvR l) (n : Nat) (h : l.length ≤ n) (e : EP) : (addE l e).length ≤ n + 1 := by
  have := add_le l e
  omega
theorem results_cellE {P : Program} {fn : Func} {p : Tmp} {ty : TypeId} (h : fn.results = #[.cell p ty]) (tmps : Array Value) (w : World) (g : Nat) (t : TypeId) (cs : Array Value) (fr : Nat × Nat) (d : TypeDesc)
    (hp : tmps.getD p undef = .pointer (some ⟨g, 0, none⟩)) (hg : w.heap[g]? = some (.cells cs t fr))
    (hu : P.underlying ty = some d) (hd : (match d with | .struct _ | .array _ _ => true | _ => false) = true) (hi : (P.info? ty).map (·.size) = some cs.size) :
    (results fn tmps).run P w = .ok (.agg cs) w := by
  have hp' : tmps[p]?.getD undef = .pointer (some ⟨g, 0, none⟩) := by simpa using hp
  simp [results, h, hp', asAddr, run_loadVar_row w g t ty cs fr d hg hu hd hi]
/-- An entry of a slot. -/
theorem of_any (s : Int) (w : World) : Calls Try.prog 19 #[.int .i64 s] w fun e w' => e = .returned (.agg #[.int .i64 s, .int .u32 4, .bool false, .int .u64 0, .int .u64 0, .int .u64 0]) ∧ Below w.heap.size w w' := by
  go_enter Try.func19, Try.ntmps19
  go_wp2_with fail
  exact bodyPost_ret (results_cellE Try.results19 _ _ _ _ _ _ _ rfl (alloc_blk _ _) Try.underlying34 rfl (by kernel_rfl)) rfl ⟨rfl, (Below.refl _ _).alloc (Nat.le_refl _) _⟩
end Go.Proofs.Ythcclgnadhcndaa
