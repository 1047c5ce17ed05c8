/-
  The iterator's contract, in the form that a range over it asks; what a loop's body that only makes memory leaves alone; conditions: the tables read as the program lays them.
-/
import Derived.Test.YtfholfmlkehfnaaDoorG1
import Derived.RangeFuncWrites
namespace Go.Proofs.YtfholfmlkehfnaaDoor
open Go.RowKit Go.Shelf

theorem next_stops_of (n bx bm : Nat) (x most : Int) (hn : 1 ≤ n) {Kp : World → World → Prop} {Ok : World → Prop} {Mine : World → Nat → Prop} (HF : Fair Kp Ok Mine) (p : Hd → Prop) (hp : ∀ z ∈ nextH x most, p z) (w : World) (hl : Lay w) (hll : LayL w) (hx : U64 x) (hm' : U32 most)
    (hbx : w.cell? ⟨bx, 0, none⟩ = some (.int .u64 x)) (hbm : w.heap[bm]? = some (.cells #[.int .u32 most] 24 (0, 0))) (hok : Ok w) (hmine : Mine w bm) :
    SeqStopsK Fence.wide n Tryd.prog 32 #[.pointer (some ⟨bx, 0, none⟩), .pointer (some ⟨bm, 0, none⟩)] (fun z : {z : Hd // p z} => z.1.vs) Kp (fun xs => xs.map (·.1) = nextH x most) (fun pre => ∃ r, pre.map (·.1) ++ r = nextH x most) (nextH x most).length w := fun y J Jx W hW hJ _ hY h0 => by
  have hbl := (Array.getElem?_eq_some_iff.1 hbm).1
  refine (next1_in n y bx bm x most hn Kp Ok Mine HF (fun l W => ∃ l' : List {z : Hd // p z}, l'.map (·.1) = l ∧ J l' W) (fun l W => ∃ l' : List {z : Hd // p z}, l'.map (·.1) = l ∧ Jx l' W)
    (fun s _ _ h hb => by obtain ⟨l', h1, h2⟩ := h; exact ⟨l', h1, abides_grown hJ l' h2 hb⟩) ?_ W (hl.below hW) (hll.below hll.lt hW) hx hm' ((hW.cell (p := ⟨bx, 0, none⟩) (World.block_lt_of_cell? w _ hbx)).trans hbx)
    ((hW.block bm hbl).trans hbm) (HF.okG _ _ hW hok) (HF.mineG _ _ _ hW hbl hmine) ⟨[], rfl, h0⟩).mono ?_
  · rintro pre z W1 ⟨l', rfl, hj⟩ hlen hz
    rw [List.length_map] at hlen
    refine (hY l' ⟨z, hp z hz⟩ W1 hj hlen).mono ?_
    rintro e W' (⟨he, h1, h2⟩ | ⟨he, h1⟩)
    · exact .inl ⟨he, ⟨l' ++ [⟨z, hp z hz⟩], by simp, h1⟩, h2⟩
    · exact .inr ⟨he, ⟨l' ++ [⟨z, hp z hz⟩], by simp, h1⟩⟩
  · rintro e W' ⟨he, ⟨xs, rfl, l', h1, h2⟩ | ⟨pre, ⟨r, hr⟩, l', rfl, h2⟩⟩
    · exact ⟨he, .inl ⟨l', h1, h2⟩⟩
    · exact ⟨he, .inr ⟨l', ⟨r, hr⟩, h2⟩⟩
theorem next_stops (n bx bm : Nat) (x most : Int) (hn : 1 ≤ n) {Kp : World → World → Prop} {Ok : World → Prop} {Mine : World → Nat → Prop} (HF : Fair Kp Ok Mine) (w : World) (hl : Lay w) (hll : LayL w) (hx : U64 x) (hm' : U32 most)
    (hbx : w.cell? ⟨bx, 0, none⟩ = some (.int .u64 x)) (hbm : w.heap[bm]? = some (.cells #[.int .u32 most] 24 (0, 0))) (hok : Ok w) (hmine : Mine w bm) :
    SeqStopsK Fence.wide n Tryd.prog 32 #[.pointer (some ⟨bx, 0, none⟩), .pointer (some ⟨bm, 0, none⟩)] Hd.vs Kp (fun xs => xs = nextH x most) (fun pre => ∃ r, pre ++ r = nextH x most) (nextH x most).length w := fun y J Jx W hW hJ _ hY h0 => by
  have hbl := (Array.getElem?_eq_some_iff.1 hbm).1
  exact next1_in n y bx bm x most hn Kp Ok Mine HF J Jx (fun s _ _ h hb => abides_grown hJ s h hb) (fun pre z W1 h1 h2 _ => hY pre z W1 h1 h2) W (hl.below hW) (hll.below hll.lt hW) hx hm' ((hW.cell (p := ⟨bx, 0, none⟩) (World.block_lt_of_cell? w _ hbx)).trans hbx)
    ((hW.block bm hbl).trans hbm) (HF.okG _ _ hW hok) (HF.mineG _ _ _ hW hbl hmine) h0
/-- What may be done leads to headers that may be. -/
theorem mem_next {x most : Int} (hx : U64 x) {z : Hd} (hz : z ∈ nextH x most) : HOk z.s z.g most := by
  cases h : mayH x most with
  | false =>
    rw [nextH_no h] at hz
    cases hz
  | true =>
    obtain ⟨e, hf⟩ := nextH_form hx h
    rw [e] at hz
    obtain ⟨c, _, hc⟩ := List.mem_filterMap.1 hz
    obtain ⟨q, hq, rfl⟩ := Option.map_eq_some_iff.1 hc
    exact (step_of hf hq).2
/-- All cells are left alone. -/
def Cs (X Y : World) : Prop := X.heap.size ≤ Y.heap.size ∧ ∀ (q : Nat) (o : Obj), X.heap[q]? = some o → o.isCells = true → Y.heap[q]? = some o
theorem Cs.trans {X Y Z : World} (h : Cs X Y) (k : Cs Y Z) : Cs X Z := ⟨Nat.le_trans h.1 k.1, fun q o ho hc => k.2 q o (h.2 q o ho hc) hc⟩
theorem Cs.grown {X Y : World} (h : Below X.heap.size X Y) : Cs X Y := ⟨h.size, fun q _ ho _ => (h.block q (Array.getElem?_eq_some_iff.1 ho).1).trans ho⟩
theorem Cs.put {W : World} {l : Nat} {o o' : Obj} (h : W.heap[l]? = some o) (ho : o.isCells = false) : Cs W (W.putObj l o') := by
  refine ⟨by simp, fun q p hp hc => ?_⟩
  refine (World.putObj_heap_other fun e => ?_).trans hp
  subst e
  rw [h] at hp
  cases hp
  rw [ho] at hc
  cases hc
theorem Cs.fair : Fair Cs (fun _ => True) (fun _ _ => True) :=
  ⟨fun _ _ q o h _ ho hc => h.2 q o ho hc, fun _ _ _ _ _ _ => trivial, fun _ _ _ _ => trivial, fun _ _ h => h.1, fun _ _ _ _ _ _ => trivial, fun _ _ _ _ => trivial, fun _ _ _ _ _ _ => trivial⟩
/-- A block of cells is no book-keeping. -/
theorem cells_own {β : Type} (B q : Nat) (o : Obj) (ho : o.isCells = true) : OwnFrom B (fun (_ : β) W => W.heap[q]? = some o) := fun _ X Y row hs hg hrow => by
  refine (hg.block q (Array.getElem?_eq_some_iff.1 hs).1 fun e => ?_).trans hs
  obtain ⟨_, p, hp, hc⟩ := hrow q e.symm
  rw [hs] at hp
  cases hp
  rw [ho] at hc
  cases hc
theorem keeps_grown {X Y : World} (B : Nat) (h : Below X.heap.size X Y) : KeepsFrom B X Y := KeepsOthers.from ⟨h.size, fun k _ ho _ => (h.block k (Array.getElem?_eq_some_iff.1 ho).1).trans ho⟩ B
end Go.Proofs.YtfholfmlkehfnaaDoor
