/-
  Once's threads and rows of entries beside them: a memory that changes, a row that grows, what a thread holds that grows, a thread's step whatever is under way; condition: all lies as it says.
  What stands while OrphansOnce is walked: the threads and rows of entries beside them; appends; condition: all lies as it says.
-/
import Derived.Test.YtjpanofkikfeoaaDoorOA1
import Derived.Test.YtjpanofkikfeoaaDoorOE2
namespace Go.Proofs.YtjpanofkikfeoaaDoor
open Go.RowKit Go.Maps

section
variable {Φ : FrO} {W : World} {B p b G k : Nat} {A : Nat → TS} {X : Nat → TI} {M M' : MV} {w w' : World} {v v' : Value} {es ys : List EP} {rs : List (Value × List EP)}
theorem TWo.rowlt (h : TWo Φ B p b G A X M w) {r : Value × List EP} (hr : r ∈ Φ.rows) {y : Nat} (hy : r.1.ownBlock = some y) : y < w.heap.size ∧ B ≤ y ∧ y ≠ p ∧ y ≠ b ∧ y ≠ G := by
  obtain ⟨hB, cs, k1⟩ := (h.rows r hr).bq hy
  have n := h.mem.ne (by decide) k1
  exact ⟨k1.lt, hB, n.1, n.2, k1.ne h.g (by decide)⟩
/-- The memory alone has changed. -/
theorem TWo.of_ (h : TWo Φ B p b G A X M w) (F : VX p b M' w') (o : Onl p b [] w w') : TWo Φ B p b G A X M' w' := by
  refine ⟨F, h.g.onl o h.gne.1 h.gne.2 (by simp), fun k hk => (h.each k hk).same fun y hy => ?_, h.apart, h.pB, h.bB, h.GB, fun r hr => (h.rows r hr).same fun y hy => ?_, h.rap, h.low.trans (o.below (Nat.le_trans h.WB h.pB) (Nat.le_trans h.WB h.bB) (by simp) h.low.size), h.WB⟩
  · obtain ⟨_, T, cs, k1, _⟩ := (h.each k hk).blk y hy
    have n := h.ne hk hy
    exact o.block y k1.lt n.1 n.2.1 (by simp)
  · have n := h.rowlt hr hy
    exact o.block y n.1 n.2.2.1 n.2.2.2.1 (by simp)
/-- A row more, that is nothing yet. -/
theorem TWo.pushRow (h : TWo ⟨W, rs⟩ B p b G A X M w) : TWo ⟨W, (.slice none 0 0, []) :: rs⟩ B p b G A X M w := by
  refine ⟨h.mem, h.g, h.each, h.apart, h.pB, h.bB, h.GB, fun r hr => ?_, fun r hr j hj y hy => ?_, h.low, h.WB⟩
  · rcases List.mem_cons.1 hr with rfl | hr
    · exact OwnE.nil _ _
    · exact h.rows r hr
  · rcases List.mem_cons.1 hr with rfl | hr
    · intro e; cases e
    · exact h.rap r hr j hj y hy
/-- The first row grows. -/
theorem TWo.grow (h : TWo ⟨W, (v, es) :: rs⟩ B p b G A X M w) (hB : 1 < B) (ho : w'.ownsRow B 48 6 v' (es.length + ys.length) (flatE es ++ flatE ys)) (hg : w.grownBy w' v.ownBlock) (hb : v'.ownBlock = v.ownBlock ∨ v'.ownBlock = some w.heap.size) (hap : ∀ r ∈ rs, ∀ y, v.ownBlock = some y → r.1.ownBlock ≠ some y) :
    TWo ⟨W, (v', es ++ ys) :: rs⟩ B p b G A X M w' ∧ ∀ r ∈ rs, ∀ y, v'.ownBlock = some y → r.1.ownBlock ≠ some y := by
  have hv : ∀ y, v.ownBlock = some y → y < w.heap.size ∧ B ≤ y ∧ y ≠ p ∧ y ≠ b ∧ y ≠ G := fun y hy => h.rowlt (r := (v, es)) (by simp) hy
  have hvb : ∀ y, v.ownBlock = some y → ∀ j, j < 5 → y ∉ (X j).bl := fun y hy j hj hk => h.rap (v, es) (by simp) j hj y hk hy
  have hlt : ∀ j, j < 5 → ∀ y ∈ (X j).bl, y < w.heap.size := fun j hj y hy => by
    obtain ⟨_, T, cs, k1, _⟩ := (h.each j hj).blk y hy
    exact k1.lt
  have hl := h.mem.lt
  have hW := h.WB
  refine ⟨⟨h.mem.keep hg.size (hg.block p hl.1 fun e => (hv p e.symm).2.2.1 rfl) (hg.block b hl.2 fun e => (hv b e.symm).2.2.2.1 rfl) (hg.block 1 (by have := h.mem.p1; omega) fun e => by have := (hv 1 e.symm).2.1; omega) (hg.block 0 (by have := h.mem.p1; omega) fun e => by have := (hv 0 e.symm).2.1; omega), h.g.same (hg.block G h.g.lt fun e => (hv G e.symm).2.2.2.2 rfl), fun j hj => (h.each j hj).same fun y hy => hg.block y (hlt j hj y hy) fun e => hvb y e.symm j hj hy, h.apart, h.pB, h.bB, h.GB, fun r hr => ?_, fun r hr j hj y hy e => ?_, ?_, h.WB⟩, fun r hr y hy e => ?_⟩
  · rcases List.mem_cons.1 hr with rfl | hr
    · unfold OwnE
      dsimp only
      rw [List.length_append, flatE_app]
      exact ho
    · exact (h.rows r (List.mem_cons_of_mem _ hr)).same fun y hy => hg.block y (h.rowlt (List.mem_cons_of_mem _ hr) hy).1 fun e => hap r hr y e.symm hy
  · rcases List.mem_cons.1 hr with rfl | hr
    · rcases hb with k1 | k1
      · exact hvb y (k1 ▸ e) j hj hy
      · have e : v'.ownBlock = some y := e
        rw [k1] at e
        injection e with e
        have := hlt j hj y hy
        omega
    · exact h.rap r (List.mem_cons_of_mem _ hr) j hj y hy e
  · exact h.low.grown hg h.low.size fun y hy => by have := (hv y hy).2.1; dsimp only at hW ⊢; omega
  · rcases hb with k1 | k1
    · exact hap r hr y (k1 ▸ hy) e
    · rw [k1] at hy
      injection hy with hy
      have := (h.rowlt (List.mem_cons_of_mem _ hr) e).1
      omega
/-- What a thread holds grows, that has nothing under way. -/
theorem TWo.more (h : TWo Φ B p b G A X M w) (hB : 1 < B) (hk : k < 5) (h0 : (A k).o.ln = 0) (ho : w'.ownsRow B 48 6 v' ((A k).held.length + ys.length) (flatE (A k).held ++ flatE ys)) (hg : w.grownBy w' (X k).vh.ownBlock) (hb : v'.ownBlock = (X k).vh.ownBlock ∨ v'.ownBlock = some w.heap.size) :
    TWo Φ B p b G (updF A k ⟨(A k).held ++ ys, (A k).o⟩) (updF X k ⟨v', (X k).vg, (X k).vt, (X k).fp⟩) M (w'.setCell ⟨G, k * 3, none⟩ v') := by
  have hT := h.each k hk
  have hvh : ∀ y, (X k).vh.ownBlock = some y → y < w.heap.size ∧ B ≤ y ∧ y ≠ p ∧ y ≠ b ∧ y ≠ G := fun y hy => ⟨hT.row.lt hy, (hT.row.bq hy).1, h.ne hk (TI.mem_h hy)⟩
  have hl := h.mem.lt
  have hm3 : VX p b M w' := h.mem.keep hg.size (hg.block p hl.1 fun e => (hvh p e.symm).2.2.1 rfl) (hg.block b hl.2 fun e => (hvh b e.symm).2.2.2.1 rfl) (hg.block 1 (by have := h.mem.p1; omega) fun e => by have := (hvh 1 e.symm).2.1; omega) (hg.block 0 (by have := h.mem.p1; omega) fun e => by have := (hvh 0 e.symm).2.1; omega)
  have hG3 := h.g.same (hg.block G h.g.lt fun e => (hvh G e.symm).2.2.2.2 rfl)
  have hrow : OwnE w' B v' ((A k).held ++ ys) := by
    unfold OwnE
    rw [List.length_append, flatE_app]
    exact ho
  have hv'G : ∀ y, v'.ownBlock = some y → y ≠ G := fun y hy e => by
    rcases hb with k1 | k1
    · exact (hvh y (k1 ▸ hy)).2.2.2.2 e
    · rw [k1] at hy
      injection hy with hy
      have := h.g.lt
      omega
  obtain ⟨e1, e2, e3⟩ : (X k).vg = .pointer none ∧ (X k).vt = .pointer none ∧ (X k).fp = [] := by
    rcases hT.op with ⟨_, e⟩ | ⟨q, n0, _⟩ | ⟨q, n0, _⟩
    · exact e
    · exact absurd h0 n0
    · exact absurd h0 n0
  refine h.put hk (h.vxset hB hm3) ((KeepW.grown hg).trans (.set _ _ _ _)) (hG3.set _ _ (cellsT_h X hk _).symm) (TLo.idle h0 (hrow.same fun g hg => h.far_set (hv'G g hg)) e1 e2 e3) (fun y hy => ?_) fun z hz n1 n2 n3 n4 => (h.far_set n3).trans (hg.block z hz fun e => n4 (TI.mem_h e.symm))
  rcases List.mem_append.1 hy with hy | hy
  · have hy : v'.ownBlock = some y := by simpa using hy
    rcases hb with k1 | k1
    · exact .inl (TI.mem_h (k1 ▸ hy))
    · rw [k1] at hy
      injection hy with hy
      exact .inr (by omega)
  · exact .inl (TI.mem_f hy)
theorem ent_ok {n : Nat} (hn : n ≤ 40) {e : EP} (h : isE (inS n) e) : e.ok := by
  obtain ⟨h1, h2⟩ := h
  rw [h2]
  exact entS_ok (inS_rng hn _ h1)
theorem held_len {n : Nat} {V : Ad → Int} {C : Nat → List Int} {L : List Int} (I : InvO (inS n) V A C L) (hk : k < 5) : (A k).held.length ≤ n := by
  have h1 : (slots (A k).held).Nodup := by
    have h := I.nodup hk
    unfold TS.own at h
    exact (List.nodup_append.1 h).1
  have h2 := inS_le (n := n) h1 fun x hx => by
    obtain ⟨e, he, rfl⟩ := List.mem_map.1 hx
    exact ((I.ok k hk).held e he).1
  rw [slots_len] at h2
  exact h2
theorem give_len {n : Nat} {V : Ad → Int} {C : Nat → List Int} {L : List Int} (I : InvO (inS n) V A C L) (hk : k < 5) (h0 : (A k).o.ln ≠ 0) : (A k).o.g.length ≤ n := by
  by_cases hg : (A k).o.g = []
  · rw [hg]; simp
  have h1 : (slots (A k).o.g).Nodup := by
    have h := I.nodup hk
    rw [own_give h0 hg] at h
    exact (List.nodup_append.1 h).2.1
  have h2 := inS_le (n := n) h1 fun x hx => by
    obtain ⟨e, he, rfl⟩ := List.mem_map.1 hx
    exact (((I.ok k hk).gv h0 hg).el e he).1
  rw [slots_len] at h2
  exact h2
/-- A thread's step, whatever is under way. -/
theorem thread_any {n : Nat} {C : Nat → List Int} {L : List Int} (gv : Bool) (h : TWo Φ B p b G A X M w) (I : InvO (inS n) M.V A C L) (hn : n ≤ 40) (hB : 1 < B) (hBw : B ≤ w.heap.size) (hk : k < 5) (hs : M.s.st < 1000000) :
    Calls Tryd.prog 18 #[.pointer (some ⟨G, k * 3, none⟩), .pointer (some ⟨p, 0, none⟩), .bool gv] w (ThD Φ B p b G k A M gv) := by
  have hl := held_len I hk
  by_cases h0 : (A k).o.ln = 0
  · cases gv with
    | false => exact thread_begT h hB hBw hk hs h0 (by omega)
    | true =>
      by_cases hh : (A k).held = []
      · exact thread_begE h hB hBw hk hs h0 hh (by omega)
      · exact thread_begG h hB hBw hk hs h0 (I.may hk hh) (fun e he => ent_ok hn ((I.ok k hk).held e he)) (by omega)
  · have hgl := give_len I hk h0
    by_cases hg : (A k).o.g = []
    · exact thread_take gv h hB hBw hk hs h0 hg (I.ok k hk).num (by omega)
    · exact thread_give gv h hB hBw hk hs h0 hg (I.ok k hk).num (by omega)
/-- The memory's count behind a thread's step. -/
theorem act_st (o : OG) (M : MV) : (oX o M).2.s.st ≤ M.s.st + 1 := oX_st o M
/-- Five threads that have nothing. -/
theorem TWo.start {V : Ad → Int} (F : VX p b M w) (hV : M.V = V) (hp : B ≤ p) (hb : B ≤ b) (hW : Below W.heap.size W w) (hWB : W.heap.size ≤ B) (hB1 : 1 < B) : TWo ⟨W, []⟩ B p b w.heap.size (fun _ => ⟨[], idleO⟩) (fun _ => TI.none) M (w.alloc (.cells (cellsT fun _ => TI.none).toArray 58)) := by
  have _ := hV
  have _ := hB1
  have hA : Below w.heap.size w (w.alloc (.cells (cellsT fun _ => TI.none).toArray 58)) := (Below.refl _ _).alloc (Nat.le_refl _) _
  refine ⟨F.below hA, Bq.new w _ _, fun k _ => TLo.idle rfl (OwnE.nil _ _) rfl rfl rfl, fun j k _ _ _ y hy => ?_, hp, hb, Nat.le_trans hp (Nat.le_of_lt F.lt.1), fun r hr => ?_, fun r hr => ?_, hW.trans (hA.mono hW.size), hWB⟩
  · rw [TI.none_bl] at hy; cases hy
  · cases hr
  · cases hr
end
/-- The entries that there are. -/
def allE (n : Nat) : List EP := (List.range n).map fun (z : Nat) => entS (6 * (z : Int))
theorem allE_len (n : Nat) : (allE n).length = n := by simp [allE]
theorem allE_succ (n : Nat) : allE (n + 1) = allE n ++ [entS (6 * (n : Int))] := by simp [allE, List.range_succ]
theorem allE_at {n i : Nat} (h : i < n) : (allE n).getD i EP.zero = entS (6 * (i : Int)) := by
  rw [List.getD_eq_getElem?_getD]
  simp [allE, h]
/-- What the first ones hold. -/
def restH (A : Nat → TS) : Nat → List EP
  | 0 => []
  | i + 1 => restH A i ++ (A i).held
theorem restH_upd (A : Nat → TS) (k : Nat) (t : TS) : ∀ i, i ≤ k → restH (updF A k t) i = restH A i
  | 0, _ => rfl
  | i + 1, h => by
    unfold restH
    rw [restH_upd A k t i (by omega), updF_ne _ (by omega)]
theorem restH_5 (A : Nat → TS) (L : List Int) : restH A 5 ++ L.map entS = restL A L := by simp [restH, restL]
end Go.Proofs.YtjpanofkikfeoaaDoor
namespace Go.Proofs.YtjpanofkikfeoaaDoor
open Go.RowKit Go.Maps

theorem mkT5 (w : World) : (Instr.makeSlice 55 (.int .i64 5) (.int .i64 5)).run Tryd.prog w = .ok (.slice (some ⟨w.heap.size, 0, none⟩) 5 5) (w.alloc (.cells (cellsT fun _ => TI.none).toArray 58)) := by kernel_rfl
theorem mod5n (i : Nat) : ∃ c : Nat, c < 5 ∧ Int.tmod (i : Int) 5 = (c : Int) := ⟨i % 5, by omega, by rw [Int.tmod_eq_emod_of_nonneg (by omega)]; omega⟩
theorem mod5u {z : Int} (h : U8 z) : ∃ c : Nat, c < 5 ∧ Int.tmod z 5 = (c : Int) := by
  obtain ⟨a, b⟩ := h
  refine ⟨(z % 5).toNat, by omega, ?_⟩
  rw [Int.tmod_eq_emod_of_nonneg a]; omega
theorem mod41 {z : Int} (h : U8 z) : ∃ c : Nat, c ≤ 40 ∧ Int.tmod z 41 = (c : Int) := by
  obtain ⟨a, b⟩ := h
  refine ⟨(z % 41).toNat, by omega, ?_⟩
  rw [Int.tmod_eq_emod_of_nonneg a]; omega
theorem one_cell (e : EP) : ∀ u ∈ e.cells, u.oneCell' = true := fun u hu => flatE_one (xs := [e]) u (by simpa [flatE] using hu)
theorem row_see (w : World) (e : EP) : ∀ j u, e.cells[j]? = some u → (w.alloc (.cells e.cells.toArray 48)).cell? ((⟨w.heap.size, 0, none⟩ : Addr).add j) = some u := by
  intro j u hj
  have h9 := (Bq.new w e.cells 48).cell j
  by_cases h0 : j = 0
  · subst h0
    simpa [Addr.add] using h9.trans hj
  · simpa [Addr.add, h0] using h9.trans hj
theorem flat_one (e : EP) : flatE [e] = e.cells := by simp [flatE]
/-- Entries that are read, behind a row of the call's own: outside a drawn region. -/
theorem wpList_append_see {w : World} {ops : Array Oper} {rest : List Oper} {oo : Oper} {a : Act} {Q : Exit → Act → World → Prop} {i0 : TypeInfo} (hi0 : Tryd.prog.info? 48 = some i0) (hz0 : i0.zero = some (.agg #[.int .i64 0, .int .u32 0, .bool false, .int .u64 0, .int .u64 0, .int .u64 0])) (hz1 : i0.size = 6) (hz2 : i0.bytes = 40) (hgd : oo.guard = none) (s x : Operand)
    (ho : oo.op = .call { callee := .builtin .append, args := #[s, x], argTypes := #[43, 43] })
    (base : Nat) (v : Value) (xs : List EP) (hs : a.eval s = v) (hown : OwnE w base v xs) (vx : Value) (ys : List EP) (hx : a.eval x = vx) (hy : SeeE w vx ys) (hl : xs.length + ys.length < 100000) (hbase : base ≤ w.heap.size)
    (h : ∀ v' w', w'.ownsRow base 48 6 v' (xs.length + ys.length) (flatE xs ++ flatE ys) → w.grownBy w' v.ownBlock → (v'.ownBlock = v.ownBlock ∨ v'.ownBlock = some w.heap.size) → wpList Tryd.prog ops Q rest (a.put oo.dst v') w') : wpList Tryd.prog ops Q (oo :: rest) a w := by
  rcases hy with ⟨rfl, rfl⟩ | ⟨g, off, c, rfl, _, _, hr⟩
  · refine wpList_append_own_none hgd s x 43 ho base 48 i0 6 Tryd.underlying43 hi0 v xs.length (flatE xs) hs hown hx (h v w ?_ ⟨rfl, rfl, rfl, Nat.le_refl _, fun _ _ _ => rfl⟩ (.inl rfl))
    have e : flatE xs ++ flatE ([] : List EP) = flatE xs := List.append_nil _
    rw [e]
    exact hown
  · exact wpList_append_own_at _ hgd s x 43 ho base 48 i0 _ 6 40 Tryd.underlying43 hi0 hz0 hz1 hz2 rfl (by decide) v xs.length (flatE xs) hs hown ⟨g, off, none⟩ ys.length c (flatE ys) hx (flatE_len ys) (SeeE.reads' hr) flatE_one (by unfold maxLen; omega) (by omega) hbase fun v' w' h1 h2 _ h4 => h v' w' h1 h2 h4
/-- While entries are given out. -/
def OnS (W : World) (p b G i : Nat) (va : Value) (w : World) : Prop := ∃ H X M, TWo ⟨W, [(va, allE i)]⟩ W.heap.size p b G (fun q => ⟨H q, idleO⟩) X M w ∧ Beg i M.V H ∧ M.s.st ≤ 4 * (i : Int)
/-- While threads act. -/
def OnA (W : World) (p b G n : Nat) (va : Value) (k : Int) (w : World) : Prop := ∃ A X C L M, TWo ⟨W, [(va, allE n)]⟩ W.heap.size p b G A X M w ∧ InvO (inS n) M.V A C L ∧ M.s.st ≤ k
/-- While they are brought to their ends, one behind the other. -/
def OnR (W : World) (p b G n i : Nat) (va vr : Value) (k : Int) (w : World) : Prop := ∃ A X C L M, TWo ⟨W, [(vr, restH A i), (va, allE n)]⟩ W.heap.size p b G A X M w ∧ InvO (inS n) M.V A C L ∧ (∀ q, q < i → (A q).o.ln = 0) ∧ M.s.st ≤ k ∧ ∀ r ∈ [(va, allE n)], ∀ y, vr.ownBlock = some y → r.1.ownBlock ≠ some y
/-- The same while one is. -/
def OnI (W : World) (p b G n i j : Nat) (va vr : Value) (m : Nat) (k : Int) (w : World) : Prop := ∃ A X C L M, TWo ⟨W, [(vr, restH A i), (va, allE n)]⟩ W.heap.size p b G A X M w ∧ InvO (inS n) M.V A C L ∧ (∀ q, q < i → (A q).o.ln = 0) ∧ M.s.st ≤ k + j ∧ (∀ r ∈ [(va, allE n)], ∀ y, vr.ownBlock = some y → r.1.ownBlock ≠ some y) ∧ ((A i).o.ln ≠ 0 → remO (A i).o M.V L (C i) + j ≤ 5 * n + 5) ∧ (restH A i).length = m
section
variable {W : World} {p b G n i j m : Nat} {va vr : Value} {k : Int} {w w' : World}
theorem upd_held (H : Nat → List EP) (c : Nat) (l : List EP) : updF (fun q => (⟨H q, idleO⟩ : TS)) c ⟨l, idleO⟩ = fun q => ⟨updF H c l q, idleO⟩ := by
  funext q
  by_cases h : q = c
  · subst h; rw [updF_same, updF_same]
  · rw [updF_ne _ h, updF_ne _ h]
theorem OnS.toA (h : OnS W p b G n va w) (hn : n ≤ 40) : OnA W p b G n va 200 w := by
  obtain ⟨H, X, M, T, Bg, hs⟩ := h
  exact ⟨_, X, _, _, M, T, Bg.inv hn, by omega⟩
theorem OnA.toR (h : OnA W p b G n va k w) : OnR W p b G n 0 va (.slice none 0 0) k w := by
  obtain ⟨A, X, C, L, M, T, I, hs⟩ := h
  exact ⟨A, X, C, L, M, T.pushRow, I, fun q hq => by omega, hs, fun r _ y hy => by cases hy⟩
theorem OnR.toI (h : OnR W p b G n i va vr k w) (hi : i < 5) : ∃ m, OnI W p b G n i 0 va vr m k w := by
  obtain ⟨A, X, C, L, M, T, I, hq, hs, hap⟩ := h
  exact ⟨_, A, X, C, L, M, T, I, hq, by simpa using hs, hap, fun h0 => I.rem_le hi h0, rfl⟩
theorem OnA.below (h : OnA W p b G n va k w) (hb : Below w.heap.size w w') : OnA W p b G n va k w' := by
  obtain ⟨A, X, C, L, M, T, I, hs⟩ := h
  exact ⟨A, X, C, L, M, T.below hb, I, hs⟩
theorem OnA.low (h : OnA W p b G n va k w) : Below W.heap.size W w := by
  obtain ⟨A, X, C, L, M, T, I, hs⟩ := h
  exact T.low
theorem OnA.mono {k' : Int} (h : OnA W p b G n va k w) (hk : k ≤ k') : OnA W p b G n va k' w := by
  obtain ⟨A, X, C, L, M, T, I, hs⟩ := h
  exact ⟨A, X, C, L, M, T, I, by omega⟩
/-- A last Take. -/
theorem last_take {A : Nat → TS} {C : Nat → List Int} {L : List Int} {M : MV} (I : InvO (inS n) M.V A C L) (hn : n ≤ 40) : ∃ N o' M', EndsO newT M N o' M' ∧ 1 ≤ N ∧ N ≤ 5 * n + 2 ∧ o'.got = L.map entS := by
  have hl := I.stack_le
  cases L with
  | nil =>
    obtain ⟨o', M', E, _, hg⟩ := take_none (M := M) I.stk
    exact ⟨1, o', M', E, by omega, by omega, hg⟩
  | cons x r =>
    simp only [List.length_cons] at hl
    obtain ⟨o', M', v, E, _, hg⟩ := take_alone I.dat (fun y hy => I.stP hy) I.rng I.stk (by omega)
    exact ⟨_, o', M', E, by omega, by omega, hg⟩
theorem OwnE.onl0 {B : Nat} {v : Value} {es : List EP} {M : MV} (h : OwnE w B v es) (F : VX p b M w) (o : Onl p b [] w w') : OwnE w' B v es := h.same fun y hy => by
  obtain ⟨_, cs, k1⟩ := h.bq hy
  have n1 := F.ne (by decide) k1
  exact o.block y k1.lt n1.1 n1.2 (by simp)
/-- A thread acts. -/
theorem OnA.act (h : OnA W p b G n va k w) (gv : Bool) (hn : n ≤ 40) (hW : 1 < W.heap.size) {c : Nat} (hc : c < 5) (hk : k < 900000) :
    Calls Tryd.prog 18 #[.pointer (some ⟨G, c * 3, none⟩), .pointer (some ⟨p, 0, none⟩), .bool gv] w fun e w' => e = .returned (.tuple #[]) ∧ OnA W p b G n va (k + 1) w' := by
  obtain ⟨A, X, C, L, M, T, I, hs⟩ := h
  have hu := T.mem.u64
  refine (thread_any gv T I hn hW T.low.size hc (by omega)).mono ?_
  rintro e w' ⟨he, X', T'⟩
  obtain ⟨C', L', I'⟩ := I.acted hc gv hu
  exact ⟨he, _, X', C', L', _, T', I', by have := oX_st ((A c).begin gv).o M; omega⟩
/-- One that is under way takes a step. -/
theorem OnI.act (h : OnI W p b G n i j va vr m k w) (hn : n ≤ 40) (hW : 1 < W.heap.size) (hi : i < 5) (hk : k + j < 900000) (hw : ∀ A X C L M, TWo ⟨W, [(vr, restH A i), (va, allE n)]⟩ W.heap.size p b G A X M w → InvO (inS n) M.V A C L → (A i).o.ln ≠ 0) :
    Calls Tryd.prog 18 #[.pointer (some ⟨G, i * 3, none⟩), .pointer (some ⟨p, 0, none⟩), .bool false] w fun e w' => e = .returned (.tuple #[]) ∧ OnI W p b G n i (j + 1) va vr m k w' := by
  obtain ⟨A, X, C, L, M, T, I, hq, hs, hap, hr, hm⟩ := h
  have hu := T.mem.u64
  have h0 := hw _ _ _ _ _ T I
  refine (thread_any false T I hn hW T.low.size hi (by omega)).mono ?_
  rintro e w' ⟨he, X', T'⟩
  rw [begin_on h0] at T'
  obtain ⟨c', L', I', hrem⟩ := I.step hi h0 hu
  refine ⟨he, _, X', _, L', _, ?_, I', fun q hq' => ?_, ?_, hap, fun h1 => ?_, ?_⟩
  · rw [restH_upd _ _ _ _ (Nat.le_refl _)]
    exact T'
  · rw [updF_ne _ (by omega)]
    exact hq q hq'
  · have := oX_st (A i).o M
    push_cast
    omega
  · rw [updF_same] at h1
    rw [updF_same, updF_same]
    have h2 : (oX (A i).o M).1.ln ≠ 0 := h1
    have h3 := hrem h2
    have h4 := hr h0
    show remO (oX (A i).o M).1 _ _ _ + _ ≤ _
    omega
  · rw [restH_upd _ _ _ _ (Nat.le_refl _)]
    exact hm
theorem OnI.cells (h : OnI W p b G n i j va vr m k w) (hi : i < 5) : (∃ vg vt, w.cell? ⟨G, i * 3 + 1, none⟩ = some (.pointer vg) ∧ w.cell? ⟨G, i * 3 + 2, none⟩ = some (.pointer vt) ∧ (vg ≠ none ∨ vt ≠ none) ∧ j < 5 * n + 6 ∧ (vg = none → ∃ q : Nat, vt = some ⟨q, 0, none⟩) ∧ (vg ≠ none → ∃ q : Nat, vg = some ⟨q, 0, none⟩)) ∧ (∀ A X C L M, TWo ⟨W, [(vr, restH A i), (va, allE n)]⟩ W.heap.size p b G A X M w → InvO (inS n) M.V A C L → (A i).o.ln ≠ 0) ∨
    (w.cell? ⟨G, i * 3 + 1, none⟩ = some (.pointer none) ∧ w.cell? ⟨G, i * 3 + 2, none⟩ = some (.pointer none) ∧ ∃ A X C L M, TWo ⟨W, [(vr, restH A i), (va, allE n)]⟩ W.heap.size p b G A X M w ∧ InvO (inS n) M.V A C L ∧ (∀ q, q < i + 1 → (A q).o.ln = 0) ∧ M.s.st ≤ k + j ∧ (∀ r ∈ [(va, allE n)], ∀ y, vr.ownBlock = some y → r.1.ownBlock ≠ some y) ∧ (restH A i).length = m) := by
  obtain ⟨A, X, C, L, M, T, I, hq, hs, hap, hr, hm⟩ := h
  obtain ⟨_, c1, c2⟩ := T.cells hi
  have key : ∀ A' X' M', TWo ⟨W, [(vr, restH A' i), (va, allE n)]⟩ W.heap.size p b G A' X' M' w → (A' i).o.ln = 0 → w.cell? ⟨G, i * 3 + 1, none⟩ = some (.pointer none) ∧ w.cell? ⟨G, i * 3 + 2, none⟩ = some (.pointer none) := fun A' X' M' T' h0 => by
    obtain ⟨_, d1, d2⟩ := T'.cells hi
    obtain ⟨e1, e2⟩ := T'.idle hi h0
    rw [e1] at d1
    rw [e2] at d2
    exact ⟨d1, d2⟩
  by_cases h0 : (A i).o.ln = 0
  · exact .inr ⟨(key A X M T h0).1, (key A X M T h0).2, A, X, C, L, M, T, I, fun q h => by by_cases e : q = i; exact e ▸ h0; exact hq q (by omega), hs, hap, hm⟩
  · left
    have hj : j < 5 * n + 6 := by have := hr h0; omega
    by_cases hg : (A i).o.g = []
    · obtain ⟨q, e1, e2, _⟩ := T.taking hi h0 hg
      rw [e1] at c1
      rw [e2] at c2
      refine ⟨⟨none, _, c1, c2, .inr (by simp), hj, fun _ => ⟨q, rfl⟩, fun h => absurd rfl h⟩, fun A' X' C' L' M' T' _ h0' => ?_⟩
      have := (key A' X' M' T' h0').2
      rw [c2] at this
      cases this
    · obtain ⟨q, e1, e2, _⟩ := T.giving hi h0 hg
      rw [e1] at c1
      rw [e2] at c2
      refine ⟨⟨_, none, c1, c2, .inl (by simp), hj, fun h => by simp at h, fun _ => ⟨q, rfl⟩⟩, fun A' X' C' L' M' T' _ h0' => ?_⟩
      have := (key A' X' M' T' h0').1
      rw [c1] at this
      cases this
end
end Go.Proofs.YtjpanofkikfeoaaDoor
