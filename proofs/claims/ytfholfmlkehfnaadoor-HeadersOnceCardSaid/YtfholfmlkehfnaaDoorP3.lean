/-
  The program's All of layer 5: the changes that may be done, in memory of their own, with no room behind; conditions: the tables read as the program lays them; the arguments are numbers of their kinds.
-/
import Derived.Test.YtfholfmlkehfnaaDoorG2
import Derived.Maps.AppendAt
namespace Go.Proofs.YtfholfmlkehfnaaDoor
open Go.RowKit Go.Shelf

theorem wpListIn_append_at {F : Fence} {n : Nat} {P : Program} (w : World) {ops : Array Oper} {rest : List Oper} {o : Oper} {a : Act} {Q : Exit → Act → World → Prop} (hgd : o.guard = none) (s x : Operand) (t : TypeId)
    (ho : o.op = .call { callee := .builtin .append, args := #[s, x], argTypes := #[t, t] })
    (base : Nat) (e : TypeId) (i : TypeInfo) (z : Value) (size bytes : Nat) (ht : P.underlying t = some (.slice e)) (hi : P.info? e = some i) (hz : i.zero = some z)
    (hsize : i.size = size) (hby : i.bytes = bytes) (hzs : z.cells.size = size) (hsz : 0 < size)
    (v : Value) (k : Nat) (xs : List Value) (hs : a.eval s = v) (hown : w.ownsRow base e size v k xs)
    (ad : Addr) (m c : Nat) (news : List Value) (hx : a.eval x = .slice (some ad) m c) (hl : news.length = m * size) (hnews : ∀ j u, news[j]? = some u → w.cell? (ad.add j) = some u) (h1 : ∀ u ∈ news, u.oneCell' = true)
    (h63 : k + m ≤ maxLen) (hbytes : (k + m) * bytes ≤ 140737488355328) (hbase : base ≤ w.heap.size)
    (h : ∀ v' w', w'.ownsRow base e size v' (k + m) (xs ++ news) → w.grownBy w' v.ownBlock → (v'.ownBlock = v.ownBlock ∨ v'.ownBlock = some w.heap.size) → wpListIn F n P ops Q rest (a.put o.dst v') w') : wpListIn F n P ops Q (o :: rest) a w := by
  refine wpListIn_plain hgd fun K hK => ?_
  obtain ⟨v', w', hrun, h2, h3, _, h5⟩ := run_append_own_at (P := P) w base t o.type e i z size bytes ht hi hz hsize hby hzs hsz v k xs hown ad m c news hl hnews h1 h63 hbytes hbase
  unfold Oper.wpIn
  refine ⟨?_, ?_⟩
  · simp [Oper.about, ho, resolve, Target.leads, Sem.run_pure]
  · rw [Oper.semAt_plain F _ _ (by rw [ho]; intro c hc'; cases hc')]
    simp [execOp, ho, resolve, invoke, builtin, hs, hx, hrun, Result.andThen]
    exact hK _ _ (h v' w' h2 h3 h5)
/-- The block of the row whose slice lies in block B. -/
def RowOf (B : Nat) (W : World) (k : Nat) : Prop := ∃ v, W.cell? ⟨B, 0, none⟩ = some v ∧ v.ownBlock = some k
theorem RowOf.same {B k : Nat} {X Y : World} (h : RowOf B Y k) (hb : Y.heap[B]? = X.heap[B]?) : RowOf B X k := by
  obtain ⟨v, hv, hk⟩ := h
  exact ⟨v, by rw [← World.cell?_of_block (a := ⟨B, 0, none⟩) hb]; exact hv, hk⟩
/-- All cells but those of block B and of its row are left alone; the row stays where it is, or is new. -/
structure Kept (B : Nat) (X Y : World) : Prop where
  size : X.heap.size ≤ Y.heap.size
  same : B < X.heap.size → ∀ (k : Nat) (o : Obj), X.heap[k]? = some o → o.isCells = true → k ≠ B → ¬ RowOf B X k → Y.heap[k]? = some o
  row : B < X.heap.size → ∀ k, RowOf B Y k → RowOf B X k ∨ X.heap.size ≤ k ∧ k < Y.heap.size
theorem Kept.trans {B : Nat} {X Y Z : World} (h : Kept B X Y) (k : Kept B Y Z) : Kept B X Z := by
  refine ⟨Nat.le_trans h.size k.size, fun hB q o ho hc hq hr => ?_, fun hB q hq => ?_⟩
  · refine k.same (Nat.lt_of_lt_of_le hB h.size) q o (h.same hB q o ho hc hq hr) hc hq fun hy => ?_
    rcases h.row hB q hy with hx | hx
    · exact hr hx
    · have := (Array.getElem?_eq_some_iff.1 ho).1
      omega
  · have := k.size
    rcases k.row (Nat.lt_of_lt_of_le hB h.size) q hq with hy | hy
    · rcases h.row hB q hy with hx | hx
      · exact .inl hx
      · exact .inr ⟨hx.1, by omega⟩
    · exact .inr ⟨Nat.le_trans h.size hy.1, hy.2⟩
theorem Kept.grown {B : Nat} {X Y : World} (h : Below X.heap.size X Y) : Kept B X Y :=
  ⟨h.size, fun _ k _ ho _ _ _ => (h.block k (Array.getElem?_eq_some_iff.1 ho).1).trans ho, fun hB _ hk => .inl (hk.same (h.block B hB))⟩
theorem Kept.put {B l : Nat} {W : World} {o o' : Obj} (h : W.heap[l]? = some o) (ho : o.isCells = false) (hBl : B ≠ l) : Kept B W (W.putObj l o') := by
  refine ⟨by simp, fun _ k p hp hc _ _ => (World.putObj_heap_other fun e => ?_).trans hp, fun _ k hk => .inl (hk.same (World.putObj_heap_other hBl))⟩
  subst e
  rw [h] at hp
  cases hp
  rw [ho] at hc
  cases hc
theorem Kept.fair (B : Nat) : Fair (Kept B) (fun W => B < W.heap.size ∧ ∀ k, RowOf B W k → k < W.heap.size) (fun W q => B < W.heap.size ∧ q ≠ B ∧ ¬ RowOf B W q) where
  same := fun _ _ q o h hm ho hc => h.same hm.1 q o ho hc hm.2.1 hm.2.2
  mine := fun X Y q h hq hm => ⟨Nat.lt_of_lt_of_le hm.1 h.size, hm.2.1, fun hr => by
    rcases h.row hm.1 q hr with hx | hx
    · exact hm.2.2 hx
    · omega⟩
  ok := fun X Y h hk => ⟨Nat.lt_of_lt_of_le hk.1 h.size, fun q hr => by
    have := h.size
    rcases h.row hk.1 q hr with hx | hx
    · have := hk.2 q hx
      omega
    · exact hx.2⟩
  size := fun _ _ h => h.size
  mineG := fun X Y q hb _ hm => ⟨Nat.lt_of_lt_of_le hm.1 hb.size, hm.2.1, fun hr => hm.2.2 (hr.same (hb.block B hm.1))⟩
  okG := fun X Y hb hk => ⟨Nat.lt_of_lt_of_le hk.1 hb.size, fun q hr => Nat.lt_of_lt_of_le (hk.2 q (hr.same (hb.block B hk.1))) hb.size⟩
  new := fun X Y q hb hq hk => ⟨Nat.lt_of_lt_of_le hk.1 hb.size, fun e => by have := hk.1; omega, fun hr => by have := hk.2 q (hr.same (hb.block B hk.1)); omega⟩
/-- The changes' numbers. -/
def csV (l : List Hd) : List Value := l.map fun y => cV y.c
/-- What stands between two rounds of All's loop: a block has the slice. -/
structure AlAt (w : World) (pre : List Hd) (W : World) : Prop where
  ex : ∃ v, Boxed W w.heap.size 32 v ∧ W.ownsRow (w.heap.size + 1) 26 1 v pre.length (csV pre)
  low : Below w.heap.size w W
theorem AlAt.own (w : World) (B : Nat) (hB : w.heap.size ≤ B) : OwnFrom B (AlAt w) := fun s X Y row hs hg hrow => by
  obtain ⟨v, h1, h2⟩ := hs.ex
  obtain ⟨v', q1, q2, _⟩ := (Own.from (holdsRow_own (w.heap.size + 1) w.heap.size 32 26 1 (fun pre : List Hd => pre.length) (fun pre => csV pre) (fun _ _ => True)) B) s X Y row ⟨v, h1, h2, trivial⟩ hg hrow
  exact ⟨⟨v', q1, q2⟩, ownFrom_below (Nat.le_refl _) hB () X Y row hs.low hg hrow⟩
/-- One round: a change is appended, the slice laid anew. -/
theorem AlAt.step {w X w1 w2 : World} {pre : List Hd} {y : Hd} {v v' : Value} (hb : Boxed X w.heap.size 32 v) (ho : X.ownsRow (w.heap.size + 1) 26 1 v pre.length (csV pre)) (hlow : Below w.heap.size w X)
    (e1 : Below X.heap.size X w1) (ho2 : w2.ownsRow (w.heap.size + 1) 26 1 v' (pre.length + 1) (csV pre ++ [cV y.c])) (hg : w1.grownBy w2 v.ownBlock) (hat : v'.ownBlock = v.ownBlock ∨ v'.ownBlock = some w1.heap.size) (hlt : ∀ k, v'.ownBlock = some k → k < w2.heap.size) :
    AlAt w (pre ++ [y]) (w2.setCell ⟨w.heap.size, 0, none⟩ v') ∧ Kept w.heap.size X (w2.setCell ⟨w.heap.size, 0, none⟩ v') ∧ KeepsOthers X (w2.setCell ⟨w.heap.size, 0, none⟩ v') := by
  have hBl := hb.lt
  have s1 := e1.size
  have s2 := hg.size
  have nB : some w.heap.size ≠ v.ownBlock := fun e => by have := (ho.lt _ e.symm).1; omega
  have hbox1 : Boxed w1 w.heap.size 32 v := (e1.block _ hBl).trans hb
  have hbox2 : Boxed w2 w.heap.size 32 v := (hg.block _ (by omega) nB).trans hbox1
  have hbox3 := hbox2.set v'
  have far : ∀ k, k < X.heap.size → k ≠ w.heap.size → some k ≠ v.ownBlock → (w2.setCell ⟨w.heap.size, 0, none⟩ v').heap[k]? = X.heap[k]? := fun k hk hkB hkv =>
    (Below.heap_setCell w2 ⟨w.heap.size, 0, none⟩ v' k hkB).trans ((hg.block k (by omega) hkv).trans (e1.block k hk))
  refine ⟨⟨⟨v', hbox3, ?_⟩, ?_⟩, ⟨by simp; omega, fun _ k o hko hoc hkB hr => ?_, fun _ k hk => ?_⟩, ⟨by simp; omega, fun k o hko hoc => ?_⟩⟩
  · rw [List.length_append, List.length_singleton, show csV (pre ++ [y]) = csV pre ++ [cV y.c] by simp [csV]]
    refine own_same ho2 fun g hgv => Below.heap_setCell w2 ⟨w.heap.size, 0, none⟩ v' g fun e => ?_
    have hge : g = w.heap.size := e
    have := (ho2.lt g hgv).1
    omega
  · refine ⟨hg.os.trans (e1.os.trans hlow.os), hg.tape.trans (e1.tape.trans hlow.tape), hg.output.trans (e1.output.trans hlow.output), by simp; have := hlow.size; omega, fun k hk => ?_⟩
    exact (far k (by omega) (by omega) fun e => by have := (ho.lt k e.symm).1; omega).trans (hlow.block k hk)
  · exact (far k (Array.getElem?_eq_some_iff.1 hko).1 hkB fun e => hr ⟨v, hb.cell, e.symm⟩).trans hko
  · obtain ⟨u, hu, huk⟩ := hk
    rw [hbox3.cell] at hu
    cases hu
    rcases hat with e | e
    · exact .inl ⟨v, hb.cell, e ▸ huk⟩
    · refine .inr ⟨?_, by simpa using hlt k huk⟩
      rw [huk] at e
      injection e with e
      omega
  · refine (far k (Array.getElem?_eq_some_iff.1 hko).1 (fun e => ?_) (fun e => ?_)).trans hko
    · subst e
      rw [show X.heap[w.heap.size]? = _ from hb] at hko
      cases hko
      cases hoc
    · obtain ⟨g, cap, cur, rfl, hg2, hcur, _⟩ := (ho.2.resolve_left fun h => by rw [h.1] at e; cases e)
      injection e with e
      subst e
      rw [hcur] at hko
      cases hko
      cases hoc
theorem clip_any (A : Option Addr) (n cap : Nat) (w : World) (hn : n ≤ cap) : Calls Tryd.prog 25 #[.slice A n cap] w fun e w' => e = .returned (.slice A n n) ∧ w = w' := by
  go_enter Tryd.func25, Tryd.ntmps25
  go_wp2
  go_ret
  exact ⟨rfl, rfl⟩
theorem Tryd_info26 : (Tryd.prog.info? 26).map (fun i => (i.zero, i.size, i.bytes)) = some (some (.int .u8 0), 1, 1) := by kernel_rfl
set_option maxRecDepth 100000 in
set_option maxHeartbeats 4000000 in
theorem all_in (n : Nat) (x most : Int) (w : World) (hl : Lay w) (hll : LayL w) (hx : U64 x) (hm' : U32 most) (hn : 3 ≤ n) :
    CallsIn Fence.wide n Tryd.prog 13 #[.int .u64 x, .int .u32 most] w fun e w' => ∃ A, e = .returned (.slice A (allH x most).length (allH x most).length) ∧ Row w' A ((allH x most).map cV) ∧ Below w.heap.size w w' := by
  have h1 : 1 ≤ n := by omega
  obtain ⟨i0, hi, hz0, hz1, hz2⟩ := info_parts Tryd_info26
  have HL := Lib.hid hl
  have HLL := Lib.hid hll
  have HX := Lib.hid hx
  have HM' := Lib.hid hm'
  have HN := Lib.hid (next_all (most := most) hx)
  clear hl hll hx hm'
  refine callsIn_of_wp_marks Tryd.func13 rfl trivial ?_ rfl
  simp only [Tryd.ntmps13, List.size_toArray, List.length_cons, List.length_nil, Nat.reduceAdd, Nat.reduceSub, Array.replicate_succ, Array.replicate_zero, List.push_toArray, List.append_toArray, List.nil_append, List.cons_append]
  gi_wp2_with (refine ⟨trivial, ?_⟩; gi_at_call 21; refine (callsIn_wide.2 (next_any x most _)).mono ?_; rintro e w3 ⟨rfl, rfl⟩)
  have b0 : Boxed (((w.alloc (.cells #[.slice none 0 0] 32)).alloc (.cells #[.int .u64 x] 22)).alloc (.cells #[.int .u32 most] 24)) w.heap.size 32 (.slice none 0 0) := ((Boxed.new w 32 (.slice none 0 0)).alloc _).alloc _
  have b3 : Boxed (((w.alloc (.cells #[.slice none 0 0] 32)).alloc (.cells #[.int .u64 x] 22)).alloc (.cells #[.int .u32 most] 24)) (w.heap.size + 1) 22 (.int .u64 x) := by
    have := (Boxed.new (w.alloc (.cells #[.slice none 0 0] 32)) 22 (.int .u64 x)).alloc (.cells #[.int .u32 most] 24)
    simpa only [World.size_alloc] using this
  have b4 : (((w.alloc (.cells #[.slice none 0 0] 32)).alloc (.cells #[.int .u64 x] 22)).alloc (.cells #[.int .u32 most] 24)).heap[w.heap.size + 1 + 1]? = some (.cells #[.int .u32 most] 24 (0, 0)) := by
    have := heap_alloc_new ((w.alloc (.cells #[.slice none 0 0] 32)).alloc (.cells #[.int .u64 x] 22)) (.cells #[.int .u32 most] 24)
    simpa only [World.size_alloc] using this
  have hlow : Below w.heap.size w (((w.alloc (.cells #[.slice none 0 0] 32)).alloc (.cells #[.int .u64 x] 22)).alloc (.cells #[.int .u32 most] 24)) := below_next (below_next ((Below.refl _ _).alloc (Nat.le_refl _) _) ((Below.refl _ _).alloc (Nat.le_refl _) _)) ((Below.refl _ _).alloc (Nat.le_refl _) _)
  have hsz : (((w.alloc (.cells #[.slice none 0 0] 32)).alloc (.cells #[.int .u64 x] 22)).alloc (.cells #[.int .u32 most] 24)).heap.size = w.heap.size + 3 := by simp
  revert b0 b3 b4 hlow hsz
  generalize (((w.alloc (.cells #[.slice none 0 0] 32)).alloc (.cells #[.int .u64 x] 22)).alloc (.cells #[.int .u32 most] 24)) = W0
  intro b0 b3 b4 hlow hsz
  have hrow : ∀ k, ¬ RowOf w.heap.size W0 k := fun k ⟨v, hv, hk⟩ => by
    rw [b0.cell] at hv
    cases hv
    cases hk
  have hst := next_stops (n - 1) (w.heap.size + 1) (w.heap.size + 1 + 1) x most (by omega) (Kept.fair w.heap.size) W0 (HL.out.below hlow) (HLL.out.below HLL.out.lt hlow) HX.out HM'.out b3.cell b4 ⟨by omega, fun k hk => absurd hk (hrow k)⟩ ⟨by omega, by omega, hrow _⟩
  have h0 : AlAt w [] W0 := ⟨⟨_, b0, World.ownsRow_nil _ _ _ _⟩, hlow⟩
  clear b0 b3 b4 hlow hrow
  refine wpIn_rangeFunc_ownG rfl h1 (gf := 32) (lb := #[.pointer (some ⟨w.heap.size + 1, 0, none⟩), .pointer (some ⟨w.heap.size + 1 + 1, 0, none⟩)]) rfl trivial (enters_of Tryd.func32 (by kernel_rfl) rfl)
    hst Kept.trans (fun W l o o' hle ho hc _ => Kept.put ho hc (by omega)) (Below.refl _ _) (fun _ => rfl) (AlAt w) (fun _ _ _ => False) (AlAt.own w _ (by omega)) (fun _ _ _ _ _ hs _ _ => hs) h0
    (fun y => { tmps := #[.int .u64 x, .int .u32 most, undef, undef, .slice none 0 0, .pointer (some ⟨w.heap.size, 0, none⟩), .int .u8 y.c, .int .u64 x, .int .u32 most, .func (.func 32) #[] #[.pointer (some ⟨w.heap.size + 1, 0, none⟩), .pointer (some ⟨w.heap.size + 1 + 1, 0, none⟩)], .int .u8 y.c, .agg #[.int .u8 y.s, .int .u64 y.g], undef, undef, undef, undef, undef, undef], defers := [] })
    ?assign ?body ?done ?stop
  case assign =>
    rintro l y W K hK
    simp only [Hd.vs, hV] at hK ⊢
    gi_wp2_with (rw [Oper.semAt_eq _ _ _ (fun c h => by cases h)]; go_simp; try go_bits)
    exact hK
  case body =>
    rintro l pre y W hI hlt
    obtain ⟨v, hb, ho⟩ := hI.ex
    have hlen : pre.length < 8 := Nat.lt_of_lt_of_le hlt (by unfold nextH; split; exact nextC_length _ _ _; exact Nat.zero_le _)
    have c5 := hb.cell
    have HB := Lib.hid hb
    have HO := Lib.hid ho
    have HLOW := Lib.hid hI.low
    have HNB := Lib.hid (show some w.heap.size ≠ v.ownBlock from fun e => by have := (ho.lt _ e.symm).1; omega)
    have hBW : w.heap.size + 1 ≤ W.heap.size := hb.lt
    clear hb ho hI h0 hst hsz hlt
    gi_wp2_with (first
      | (gi_at_builtin; refine wpListIn_append_at _ rfl (.tmp 12) (.tmp 14) 32 rfl (w.heap.size + 1) 26 i0 (.int .u8 0) 1 1 Tryd.underlying32 hi hz0 hz1 hz2 rfl (by decide) _ pre.length (csV pre) rfl (HO.out.alloc _) ⟨W.heap.size, 0, none⟩ 1 1 [cV y.c] rfl rfl (cells_new _ _ _) (fun u hu => by rw [List.mem_singleton.1 hu]; rfl) (by unfold maxLen; omega) (by omega) (by simp; omega) ?_; intro v' w2 hown' hgrow hat; obtain ⟨g', cap', rfl, hg1, hg2⟩ := hown'.form (by omega); have bx2 : Boxed w2 w.heap.size 32 v := (hgrow.block w.heap.size (by simp; omega) HNB.out).trans (HB.out.alloc _); have c2 := bx2.cell; have f2 := bx2.frozen; have HO2 := Lib.hid hown'; have HG := Lib.hid hgrow; have HAT := Lib.hid hat; clear hown' hgrow hat bx2)
      | (rw [Oper.semAt_eq _ _ _ (fun c h => by cases h)]; go_simp; try go_bits))
    obtain ⟨t1, t2, t3⟩ := AlAt.step (y := y) HB.out HO.out HLOW.out ((Below.refl _ _).alloc (Nat.le_refl _) _) HO2.out HG.out HAT.out (fun k hk => (HO2.out.lt k hk).2)
    exact ⟨t3.from _, t2, t1⟩
  case done =>
    rintro D xs W hD rfl hI hK
    obtain ⟨v, hb, ho⟩ := hI.ex
    have c5 := hb.cell
    have HK := Lib.hid hK
    have hD1 : w.heap.size ≠ D := by omega
    have hcs : (allH x most).map cV = csV (nextH x most) := by rw [← HN.out, List.map_map]; rfl
    have hal : (allH x most).length = (nextH x most).length := by rw [← HN.out, List.length_map]
    have HLOW := Lib.hid (hI.low.trans (belowK_b (w := w) (Nat.le_refl _) W D _ (.deferred none) (by omega) hK rfl rfl))
    have hnd : v.ownBlock ≠ some D := fun e => by
      obtain ⟨g, cap, cur, rfl, _, hcur, _⟩ := (ho.2.resolve_left fun h => by rw [h.1] at e; cases e)
      injection e with e
      subst e
      rw [hK] at hcur
      cases hcur
    have HROW := Lib.hid (show (W.putObj D (.deferred none)).ownsRow (w.heap.size + 1) 26 1 v (nextH x most).length (csV (nextH x most)) from own_same ho fun g hg => World.putObj_heap_other fun e => hnd (by rw [hg, e]))
    have HCS := Lib.hid hcs
    have HAL := Lib.hid hal
    rcases ho.2 with ⟨rfl, hz⟩ | ⟨g, c, cur, rfl, hg, hcur, hnc, hcm, hk⟩
    · clear hI hK hb ho h0 hst hsz hcs hal hnd
      gi_wp2_with (refine ⟨trivial, ?_⟩; gi_at_call 25; refine (callsIn_wide.2 (clip_any _ _ _ _ (Nat.le_refl _))).mono ?_; rintro e w' ⟨rfl, rfl⟩)
      refine ⟨by simp, .inl ⟨_, _, rfl, run_takeDeferred HK.out, ?_⟩⟩
      have hxn : nextH x most = [] := List.length_eq_zero_iff.1 hz
      refine ⟨_, results_tmp rfl _ _ _, none, ?_, ?_, HLOW.out⟩
      · rw [HAL.out, hxn]
        rfl
      · rw [HCS.out, hxn]
        exact Row.nil _ _
    · clear hI hK hb ho h0 hst hsz hcs hal hnd hcur hcm hk hg
      gi_wp2_with (refine ⟨trivial, ?_⟩; gi_at_call 25; refine (callsIn_wide.2 (clip_any _ _ _ _ hnc)).mono ?_; rintro e w' ⟨rfl, rfl⟩)
      refine ⟨by simp, .inl ⟨_, _, rfl, run_takeDeferred HK.out, ?_⟩⟩
      refine ⟨_, results_tmp rfl _ _ _, some ⟨g, 0, none⟩, ?_, ?_, HLOW.out⟩
      · rw [HAL.out]
        rfl
      · rw [HCS.out]
        exact row_of_own HROW.out
  case stop =>
    rintro D c pre W _ _ h _
    exact h.elim
theorem all_any (x most : Int) (w : World) (hl : Lay w) (hll : LayL w) (hx : U64 x) (hm' : U32 most) :
    Calls Tryd.prog 13 #[.int .u64 x, .int .u32 most] w fun e w' => ∃ A, e = .returned (.slice A (allH x most).length (allH x most).length) ∧ Row w' A ((allH x most).map cV) ∧ Below w.heap.size w w' :=
  callsIn_wide.1 (all_in 3 x most w hl hll hx hm' (Nat.le_refl _))
end Go.Proofs.YtfholfmlkehfnaaDoor
