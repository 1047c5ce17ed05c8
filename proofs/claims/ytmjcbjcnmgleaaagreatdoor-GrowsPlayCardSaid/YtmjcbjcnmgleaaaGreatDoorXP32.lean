/-
  The program's words, told; The two memories of layer 2 side by side; The law's pair of memories; The law's acts as an argument; conditions as each theorem says.
-/
import Derived.Test.YtmjcbjcnmgleaaaGreatDoorXP31
import Derived.Laws.OwnMore
import Derived.Deep.DeepAppendRoom
import Derived.Outline
import Derived.Test.YtmjcbjcnmgleaaaGreatDoorXP30
import Derived.Test.YtmjcbjcnmgleaaaGreatDoorXP07
import Derived.Test.YtmjcbjcnmgleaaaGreatDoorXP08
namespace Go.Proofs.YtmjcbjcnmgleaaaGreatDoor
open Go.Shelf Go.RowKit Go.Lib Go.Sort Go.Maps
def wordCells (x : Ad × Int) : List Value := [.int .u8 x.1.k, .int .i64 x.1.a, .int .i64 x.1.f, .int .u64 x.2]
def flatW (l : List (Ad × Int)) : List Value := l.flatMap wordCells
theorem flatW_snoc (l : List (Ad × Int)) (x : Ad × Int) : flatW (l ++ [x]) = flatW l ++ wordCells x := by simp [flatW]
theorem word_one (x : Ad × Int) : ∀ u ∈ wordCells x, u.oneCell' = true := by
  intro u hu
  simp [wordCells] at hu
  rcases hu with rfl | rfl | rfl | rfl <;> rfl
theorem Tryz_info43 : (Tryz.prog.info? 117).map (fun i => (i.zero, i.size, i.bytes)) = some (some (.agg #[.int .u8 0, .int .i64 0, .int .i64 0, .int .u64 0]), 4, 32) := by kernel_rfl
theorem wpListIn_append_fits {F : Fence} {n : Nat} {P : Program} (w : World) {ops : Array Oper} {rest : List Oper} {o : Oper} {a : Act} {Q : Exit → Act → World → Prop}
    (hg : o.guard = none) (s x : Operand) (t : TypeId) (hop : o.op = Op.call { callee := Callee.builtin Builtin.append, args := #[s, x], argTypes := #[t, t] })
    (base : Nat) (e : TypeId) (i : TypeInfo) (size : Nat) (h1 : P.underlying t = some (.slice e)) (h2 : P.info? e = some i) (h4 : i.size = size)
    (g k cap : Nat) (xs : List Value) (hs : a.eval s = .slice (some ⟨g, 0, none⟩) k cap) (hown : w.ownsRow base e size (.slice (some ⟨g, 0, none⟩) k cap) k xs) (ad : Addr) (m c : Nat) (news : List Value) (hx : a.eval x = .slice (some ad) m c) (hn : news.length = m * size)
    (hc : ∀ j u, news[j]? = some u → w.cell? (ad.add j) = some u) (h1c : ∀ u ∈ news, u.oneCell' = true) (hroom : k + m ≤ cap)
    (hK : ∀ w', w'.ownsRow base e size (.slice (some ⟨g, 0, none⟩) (k + m) cap) (k + m) (xs ++ news) → w.grownBy w' (some g) → wpListIn F n P ops Q rest (a.put o.dst (.slice (some ⟨g, 0, none⟩) (k + m) cap)) w') :
    wpListIn F n P ops Q (o :: rest) a w := by
  refine wpListIn_plain hg fun K hK' => ?_
  obtain ⟨w', hrun, r1, r2⟩ := run_append_own_spare (P := P) w base t o.type e i size h1 h2 h4 g k cap xs hown ad m c news hn hc h1c hroom
  unfold Oper.wpIn
  refine ⟨?_, ?_⟩
  · simp [Oper.about, hop, resolve, Target.leads, Sem.run_pure]
  · rw [Oper.semAt_plain F _ _ (by rw [hop]; intro c hc'; cases hc')]
    simp [execOp, hop, resolve, invoke, builtin, hs, hx, hrun, Result.andThen]
    exact hK' _ _ (hK w' r1 r2)
def WordsPost {H : Type} (D0 : DataW H) (w : World) (e : Ending) (W' : World) : Prop :=
  ∃ (g : Nat) (ts : List Ad), e = .returned (.slice (some ⟨g, 0, none⟩) ts.length ts.length) ∧ Addrs D0 ts ∧
    W'.ownsRow w.heap.size 117 4 (.slice (some ⟨g, 0, none⟩) ts.length ts.length) ts.length (flatW (wordsOf D0 ts)) ∧ Below w.heap.size w W'
def Box4 (W : World) (B : Nat) (x : Ad × Int) : Prop := W.heap[B]? = some (.cells #[.int .u8 x.1.k, .int .i64 x.1.a, .int .i64 x.1.f, .int .u64 x.2] 117 (0, 0))
theorem Box4.cell {W : World} {B : Nat} {x : Ad × Int} (h : Box4 W B x) : W.cell? ⟨B, 0, none⟩ = some (.int .u8 x.1.k) ∧ W.cell? ⟨B, 1, none⟩ = some (.int .i64 x.1.a) ∧ W.cell? ⟨B, 2, none⟩ = some (.int .i64 x.1.f) ∧ W.cell? ⟨B, 3, none⟩ = some (.int .u64 x.2) := by
  refine ⟨?_, ?_, ?_, ?_⟩ <;> simp [World.cell?, show W.heap[B]? = _ from h]
structure Told (w : World) (B c : Nat) (pre : List (Ad × Int)) (W : World) : Prop where
  box : Boxed W B 114 (.slice (some ⟨w.heap.size, 0, none⟩) pre.length c)
  row : W.ownsRow w.heap.size 117 4 (.slice (some ⟨w.heap.size, 0, none⟩) pre.length c) pre.length (flatW pre)
  low : Below w.heap.size w W
theorem Told.row_lt {w : World} {B c : Nat} {pre : List (Ad × Int)} {W : World} (h : Told w B c pre W) : ∃ cur, W.heap[w.heap.size]? = some (.cells cur 117 (0, 0)) := by
  rcases h.row.2 with ⟨hv, _⟩ | ⟨g', cap', cur, hv, _, hb, _⟩
  · cases hv
  · cases hv
    exact ⟨cur, hb⟩
theorem Told.turned {w : World} {B c B' : Nat} {pre : List (Ad × Int)} {X Y : World} (h : Told w B c pre X) (ht : TurnedV B' X Y) (hB : B < B') (hw : w.heap.size < B') : Told w B c pre Y := by
  obtain ⟨cur, hb⟩ := h.row_lt
  have hlt := (Array.getElem?_eq_some_iff.1 hb).1
  refine ⟨(ht.block B h.box.lt (by omega) (by omega)).trans h.box, ⟨h.row.1, ?_⟩, ⟨ht.os.trans h.low.os, ht.tape.trans h.low.tape, ht.output.trans h.low.output, Nat.le_trans h.low.size ht.size, fun k hk => (ht.block k (by omega) (by omega) (by omega)).trans (h.low.block k hk)⟩⟩
  rcases h.row.2 with ⟨hv, _⟩ | ⟨g', cap', cur', hv, hbase, hb', rest⟩
  · cases hv
  · cases hv
    exact .inr ⟨_, _, cur', rfl, hbase, (ht.block _ hlt (by omega) (by omega)).trans hb', rest⟩
theorem Told.grown {w : World} {B c : Nat} {pre : List (Ad × Int)} {X Y : World} (h : Told w B c pre X) (hg : Grown X Y) : Told w B c pre Y := by
  obtain ⟨cur, hb⟩ := h.row_lt
  have hlt := (Array.getElem?_eq_some_iff.1 hb).1
  refine ⟨(hg.block B h.box.lt).trans h.box, ⟨h.row.1, ?_⟩, h.low.trans (Below.mono hg h.low.size)⟩
  rcases h.row.2 with ⟨hv, _⟩ | ⟨g', cap', cur', hv, hbase, hb', rest⟩
  · cases hv
  · cases hv
    exact .inr ⟨_, _, cur', rfl, hbase, (hg.block _ hlt).trans hb', rest⟩
set_option maxRecDepth 100000 in
set_option maxHeartbeats 4000000 in
theorem words_in {H : Type} (n p b nn : Nat) (D0 : DataW H) (hsz : Maps.size D0 ≤ 1000000) (hpos : 0 < Maps.size D0) (cp : Array Value) (frp : Nat × Nat) (w : World) (hp : w.heap[p]? = some (.cells cp 121 frp)) (hp0 : cp[0]? = some (.map (some b)))
    (hown : w.ownsMap Tryz.prog 33 (plainElem Tryz.prog 34) b nn D0) (hn : 3 ≤ n) :
    CallsIn Fence.wide n Tryz.prog 42 #[.pointer (some ⟨p, 0, none⟩)] w (WordsPost D0 w) := by
  have h1 : 1 ≤ n := by omega
  obtain ⟨i0, hi, hz0, hz1, hz2⟩ := info_parts Tryz_info43
  have hcell : w.cell? ⟨p, 0, none⟩ = some (.map (some b)) := by simp [World.cell?, hp, hp0]
  have hlen := hown.len Tryz.underlying119 3
  have hz : (((Maps.size D0 : Nat) : Int) == 0) = false := by simp; omega
  obtain ⟨wm, hmk, hrow0, hgr0⟩ := run_make_own (P := Tryz.prog) w w.heap.size 114 117 i0 _ 4 Tryz.underlying114 hi hz0 hz1 .i64 .i64 (Maps.size D0) (by rw [hz2]; omega) (by unfold maxLen; omega) (Nat.le_refl _)
  have HO := Lib.hid hown
  have HP := Lib.hid hp
  have HR0 := Lib.hid hrow0
  have HG0 := Lib.hid (Grown.of_none hgr0)
  clear hrow0 hgr0 hown hp
  refine callsIn_of_wp_marks Tryz.func42 rfl trivial ?_ rfl
  simp only [Tryz.ntmps42, List.size_toArray, List.length_cons, List.length_nil, Nat.reduceAdd, Nat.reduceSub, Array.replicate_succ, Array.replicate_zero, List.push_toArray, List.append_toArray, List.nil_append, List.cons_append]
  gi_wp2
  obtain ⟨cur0, hcur0⟩ : ∃ cur, wm.heap[w.heap.size]? = some (.cells cur 117 (0, 0)) := by
    rcases HR0.out.2 with ⟨hv, _⟩ | ⟨g', cap', cur, hv, _, hb, _⟩
    · cases hv
    · cases hv
      exact ⟨cur, hb⟩
  have hRB : w.heap.size < wm.heap.size := (Array.getElem?_eq_some_iff.1 hcur0).1
  have bO := Boxed.new wm 114 (.slice (some ⟨w.heap.size, 0, none⟩) 0 (Maps.size D0))
  have hG0 : Grown w (wm.alloc (.cells #[.slice (some ⟨w.heap.size, 0, none⟩) 0 (Maps.size D0)] 114)) := Grown.trans HG0.out (Grown.alloc _ _)
  have hT0 : Told w wm.heap.size (Maps.size D0) [] (wm.alloc (.cells #[.slice (some ⟨w.heap.size, 0, none⟩) 0 (Maps.size D0)] 114)) := ⟨bO, HR0.out.alloc _, hG0⟩
  have hs0 : (wm.alloc (.cells #[.slice (some ⟨w.heap.size, 0, none⟩) 0 (Maps.size D0)] 114)).heap.size = wm.heap.size + 1 := by simp
  have hpl := (Array.getElem?_eq_some_iff.1 HP.out).1
  have hbl := HO.out.lt
  have hyi := inOrder_yields (n - 1) p b nn wm.heap.size w.heap.size D0 hsz hpos cp frp _ (hG0.cells HP.out) hp0 (by omega) (by omega) (hG0.owns HO.out) (by omega) (by omega) (by omega) (by omega) (by omega)
  clear bO hcell hlen hmk hcur0 hG0
  revert hT0 hs0 hyi
  generalize wm.alloc (.cells #[.slice (some ⟨w.heap.size, 0, none⟩) 0 (Maps.size D0)] 114) = W0
  intro hT0 hs0 hyi
  refine range_bound (gf := 80) (rv := .pointer (some ⟨p, 0, none⟩)) rfl (enters_of Tryz.func80 (by kernel_rfl) rfl) (fun _ => rfl) hyi Spares.trans Spares.of_grown (fun W r r' h => Spares.loop W r r' h)
    (Told w wm.heap.size (Maps.size D0)) (fun s X Y h ht => h.turned ht (by omega) (by omega)) hT0
    (fun x a' W => ∃ Bx, Bx ≠ W0.heap.size ∧ Bx ≠ W0.heap.size + 1 ∧ Box4 W Bx x ∧ a' = { tmps := #[.pointer (some ⟨p, 0, none⟩), undef, .slice none 0 0, .pointer (some ⟨wm.heap.size, 0, none⟩), .pointer (some ⟨Bx, 0, none⟩),
          .pointer (some ⟨p, 0, none⟩), .bool false, .bool false, .pointer (some ⟨p, 0, none⟩), .pointer (some ⟨p, 0, none⟩), .pointer (some ⟨p, 0, none⟩), .map (some b), .int .i64 (Maps.size D0 : Int),
          .bool false, .bool false, .pointer (some ⟨p, 0, none⟩), .pointer (some ⟨p, 0, none⟩), .pointer (some ⟨p, 0, none⟩), .map (some b), .int .i64 (Maps.size D0 : Int), .slice (some ⟨w.heap.size, 0, none⟩) 0 (Maps.size D0),
          .pointer (some ⟨p, 0, none⟩), .func (.func 80) #[.pointer (some ⟨p, 0, none⟩)] #[], wordV x, undef, undef, undef, undef, undef], defers := [] })
    (fun x a' s X Y h ht => by obtain ⟨Bx, h1, h2, h3, h4⟩ := h; exact ⟨Bx, h1, h2, (ht.block Bx (Array.getElem?_eq_some_iff.1 h3).1 h1 h2).trans h3, h4⟩)
    ?assign ?body ?done
  case assign =>
    intro l pre x W K hW hI hK
    simp only [wordV] at hK ⊢
    gi_wp2_with (rw [Oper.semAt_eq _ _ _ (fun c h => by cases h)]; go_simp; try go_bits)
    exact hK _ _ (Grown.alloc _ _) (hI.grown (Grown.alloc _ _)) ⟨W.heap.size, by omega, by omega, World.alloc_heap_new W _, rfl⟩
  case body =>
    rintro l pre x a' W ⟨r, hr⟩ hI ⟨Bx, hx1, hx2, hbx, rfl⟩ hlt
    have hc := hI.box.cell
    obtain ⟨x0, x1, x2, x3⟩ := hbx.cell
    have HI := Lib.hid hI
    have hsW := hI.low.size
    simp only [wordV]
    clear hI hT0
    gi_wp2_with (first | (gi_at_builtin; refine wpListIn_append_fits _ rfl _ _ 114 rfl w.heap.size 117 i0 4 Tryz.underlying114 hi hz1 w.heap.size pre.length (Maps.size D0) (flatW pre) rfl (HI.out.row.alloc _) ⟨W.heap.size, 0, none⟩ 1 1 (wordCells x) rfl rfl (cells_new _ _ _) (word_one x) (by omega) ?_; intro w1 hown' hgrow; have HW := Lib.hid hown'; have HGR := Lib.hid hgrow; obtain ⟨hv1, hv2, hr2, hk2, hb2⟩ := HI.out.box.appended (by decide) HI.out.row hsW (Nat.le_of_lt hRB) hown' hgrow; have HV2 := Lib.hid hv2; have HR2 := Lib.hid hr2; have HB2 := Lib.hid hb2; have hc1 := hv1.cell; have hf1 := hv1.frozen; clear hown' hgrow hv1 hv2 hr2 hk2 hb2) | (rw [Oper.semAt_eq _ _ _ (fun c h => by cases h)]; go_simp; try go_bits))
    have hrl := (Array.getElem?_eq_some_iff.1 hr).1
    have same : ∀ q, q < W.heap.size → q ≠ wm.heap.size → q ≠ w.heap.size → (w1.setCell ⟨wm.heap.size, 0, none⟩ (.slice (some ⟨w.heap.size, 0, none⟩) (pre.length + 1) (Maps.size D0))).heap[q]? = W.heap[q]? := fun q hq h1 h2 =>
      (Below.heap_setCell _ _ _ q h1).trans ((HGR.out.block q (by simp; omega) (by simp; omega)).trans (Below.heap_alloc W _ q hq))
    refine ⟨same _ (by omega) (by omega) (by omega), same _ (by omega) (by omega) (by omega), ⟨HB2.out.size, fun q o ho h1 h2 _ => (same q (Array.getElem?_eq_some_iff.1 ho).1 h1 h2).trans ho⟩, ⟨?_, ?_, HI.out.low.trans HB2.out⟩⟩
    · simpa using HV2.out
    · rw [flatW_snoc]; simpa using HR2.out
  case done =>
    rintro xs W ⟨ts, hts, rfl⟩ hI hK
    have hc := hI.box.cell
    have HI := Lib.hid hI
    have HT := Lib.hid hts
    have HL := Lib.hid hts.2.2
    have HK := Lib.hid hK
    clear hI hts hT0
    gi_wp2
    refine ⟨by simp, .inl ⟨_, _, rfl, run_takeDeferred HK.out, ?_⟩⟩
    have el : (wordsOf D0 ts).length = ts.length := by simp [wordsOf]
    have hr := HI.out.row
    rw [el, ← HL.out] at hr
    refine ⟨_, results_tmp rfl _ _ _, w.heap.size, ts, ?_, HT.out, ownsRow_putObj hr _ HK.out rfl, HI.out.low.trans (belowK_b (w := w) (Nat.le_refl _) W W0.heap.size _ _ (by omega) HK.out rfl rfl)⟩
    show Ending.returned (.slice (some ⟨w.heap.size, 0, none⟩) (wordsOf D0 ts).length (Maps.size D0)) = _
    rw [el, HL.out]
theorem words_any {H : Type} (p b nn : Nat) (D0 : DataW H) (hsz : Maps.size D0 ≤ 1000000) (hpos : 0 < Maps.size D0) (cp : Array Value) (frp : Nat × Nat) (w : World) (hp : w.heap[p]? = some (.cells cp 121 frp)) (hp0 : cp[0]? = some (.map (some b)))
    (hown : w.ownsMap Tryz.prog 33 (plainElem Tryz.prog 34) b nn D0) : Calls Tryz.prog 42 #[.pointer (some ⟨p, 0, none⟩)] w (WordsPost D0 w) :=
  callsIn_wide.1 (words_in 3 p b nn D0 hsz hpos cp frp w hp hp0 hown (Nat.le_refl _))
theorem words_none {H : Type} (p b nn : Nat) (D0 : DataW H) (hz : Maps.size D0 = 0) (w : World) (hp : w.cell? ⟨p, 0, none⟩ = some (.map (some b))) (hown : w.ownsMap Tryz.prog 33 (plainElem Tryz.prog 34) b nn D0) :
    Calls Tryz.prog 42 #[.pointer (some ⟨p, 0, none⟩)] w fun e w' => e = .returned (.slice none 0 0) ∧ w = w' := by
  have hl := hown.len Tryz.underlying119 3
  rw [hz] at hl
  clear hown hz
  go_enter Tryz.func42, Tryz.ntmps42
  go_wp2
  go_ret
  exact ⟨rfl, rfl⟩
end Go.Proofs.YtmjcbjcnmgleaaaGreatDoor
namespace Go.Proofs.YtmjcbjcnmgleaaaGreatDoor
open Go.RowKit Go.Maps
theorem valOf_eq (D : DataW Unit) (x : Ad) : valOf D x = valD D x := by
  unfold valOf valD
  generalize D.atKey x.lit (.lit (.int .u64 0)) = d
  cases d with
  | lit l => cases l <;> rfl
  | _ => rfl
theorem apart_of (L : List (Ad × Int)) (h : (L.map Prod.fst).Nodup) : Apart (L.map toWd) := by
  unfold Apart
  rw [List.pairwise_map]
  rw [List.nodup_iff_pairwise_ne, List.pairwise_map] at h
  exact h.imp fun hne e => hne (Ad.ext e)
theorem Rel.words {D : DataW Unit} {L : List (Ad × Int)} (h : Rel D L) {ts : List Ad} (ht : Addrs D ts) : wordsF (L.map toWd) = ts.map fun x => toWd (x, valD D x) := by
  obtain ⟨s1, s2⟩ := wordsF_spec (L.map toWd) [] (apart_of L h.nodup) List.Pairwise.nil (fun x hx => by cases hx)
  refine sorted_ext (r := fun x z => lessW x z = true) lessW_irr lessW_asy _ _ s1 ?_ fun z => ?_
  · rw [List.pairwise_map]
    exact ht.1.imp fun hh => hh
  · show z ∈ (L.map toWd).foldl stepW [] ↔ _
    rw [s2 z]
    constructor
    · rintro (hz | ⟨hz, hv⟩)
      · cases hz
      · obtain ⟨⟨x, v⟩, hm, rfl⟩ := List.mem_map.1 hz
        have e := vals_of_mem L h.nodup x v hm
        have e' : valD D x = v := (h.val x).trans e
        refine List.mem_map.2 ⟨x, (ht.2.1 x).2 ((h.has x).2 (by rw [e']; exact hv)), by rw [e']⟩
    · intro hz
      obtain ⟨x, hx, rfl⟩ := List.mem_map.1 hz
      have hne := (h.has x).1 ((ht.2.1 x).1 hx)
      refine .inr ⟨List.mem_map.2 ⟨(x, valD D x), ?_, rfl⟩, hne⟩
      rw [h.val x] at hne ⊢
      exact mem_of_vals L x hne
end Go.Proofs.YtmjcbjcnmgleaaaGreatDoor
namespace Go.Proofs.YtmjcbjcnmgleaaaGreatDoor
open Go.RowKit Go.Maps
theorem flatW_words (D : DataW Unit) (ts : List Ad) : flatW (wordsOf D ts) = flat (ts.map fun x => toWd (x, valD D x)) := by
  induction ts with
  | nil => rfl
  | cons x r ih =>
    show wordCells (x, valOf D x) ++ flatW (wordsOf D r) = (toWd (x, valD D x)).cells ++ flat (r.map fun x => toWd (x, valD D x))
    rw [ih, valOf_eq]
    rfl
theorem Rel.none {D : DataW Unit} {L : List (Ad × Int)} (h : Rel D L) {w : World} {m n : Nat} (hown : w.ownsMap Tryz.prog 33 (plainElem Tryz.prog 34) m n D) (hz : Maps.size D = 0) : wordsF (L.map toWd) = [] := by
  have hn : ((L.filter fun y => decide (y.2 ≠ 0)).map Prod.fst).Nodup := h.nodup.sublist (List.Sublist.map _ List.filter_sublist)
  have hm : ∀ x : Ad, x ∈ (L.filter fun y => decide (y.2 ≠ 0)).map Prod.fst ↔ Maps.has D x.lit = true := fun x => by
    rw [h.has x, h.val x, List.mem_map]
    constructor
    · rintro ⟨⟨y, v⟩, hy, rfl⟩
      obtain ⟨h1, h2⟩ := List.mem_filter.1 hy
      rw [vals_of_mem L h.nodup y v h1]
      simpa using h2
    · intro hx
      exact ⟨(x, vals L x), List.mem_filter.2 ⟨mem_of_vals L x hx, by simpa using hx⟩, rfl⟩
  have hl := own_size hown hn hm
  rw [hz] at hl
  have he := List.length_eq_zero_iff.1 hl
  rw [he] at hm
  rw [h.words (ts := []) ⟨List.Pairwise.nil, hm, hz.symm⟩]
  rfl
def RowA (sl : List Wd) (B : Nat) (v : Value) (W : World) : Prop :=
  (v = .slice none 0 0 ∧ sl = []) ∨ (∃ g, v = .slice (some ⟨g, 0, none⟩) sl.length sl.length ∧ W.ownsRow B 117 4 (.slice (some ⟨g, 0, none⟩) sl.length sl.length) sl.length (flat sl) ∧ 0 < sl.length)
section
variable {p m b n : Nat} {D : DataW Unit} {s r : Acc8} {L : List (Ad × Int)} {W : World}
theorem words_p (h : Pr p m b n D s L r W) (hr : Rel D L) (hL : L.length ≤ 4999) :
    Calls Tryz.prog 42 #[.pointer (some ⟨p, 0, none⟩)] W fun e W' => ∃ v, e = .returned v ∧ RowA (wordsF (L.map toWd)) W.heap.size v W' ∧ Below W.heap.size W W' := by
  have hsz := hr.size h.prog.own
  by_cases hz : Maps.size D = 0
  · refine (words_none p m n D hz W (h.prog.cell 0) h.prog.own).mono ?_
    rintro e W' ⟨rfl, rfl⟩
    exact ⟨_, rfl, .inl ⟨rfl, hr.none h.prog.own hz⟩, Below.refl _ _⟩
  · refine (words_any p m n D (by omega) (by omega) _ _ W h.prog.blk rfl h.prog.own).mono ?_
    rintro e W' ⟨g, ts, rfl, hts, hrow, hb⟩
    have hw := hr.words hts
    have hl : (wordsF (L.map toWd)).length = ts.length := by rw [hw, List.length_map]
    rw [flatW_words, ← hw, ← hl] at hrow
    rw [← hl]
    exact ⟨_, rfl, .inr ⟨g, rfl, hrow, by have := hts.2.2; omega⟩, hb⟩
theorem words_r (h : Pr p m b n D s L r W) (hL : L.length ≤ 4999) : Calls Tryz.prog 43 #[.pointer (some ⟨b, 0, none⟩)] W (RefWords (L.map toWd) W) := by
  obtain ⟨v, h2⟩ := h.ref
  exact ref_words_any b b (L.map toWd) v _ W h2 (by simp; omega)
theorem neq_addr (k a f : Int) (w : World) : (binOp .neq 33 (.agg #[.int .u8 k, .int .i64 a, .int .i64 f]) (.agg #[.int .u8 k, .int .i64 a, .int .i64 f])).run Tryz.prog w = .ok (.bool false) w := by
  have hS : Tryz.prog.underlying 33 = some (.struct (Tryz.prog.fieldsOf 33)) := by kernel_rfl
  have hp : Tryz.prog.stoodInHeld 33 = false := by kernel_rfl
  rw [run_neq_struct, show (10000 : Nat) = 9999 + 1 from rfl, run_equalIn_agg w 9999 33 _ _ hS hp]
  simp only [Program.fieldsOf, Tryz.underlying33]
  go_simp
theorem own_cells43 {w : World} {B g cap : Nat} {l : List Wd} (h : w.ownsRow B 117 4 (.slice (some ⟨g, 0, none⟩) l.length cap) l.length (flat l)) : WdCells w g l := fun i hi => by
  have k : ∀ j, j < 4 → w.cell? ⟨g, i * 4 + j, none⟩ = (l.getD i wd0).cells[j]? := fun j hj => (h.cellAt (i * 4 + j) (by omega)).trans (flat_at l i j hi hj)
  exact ⟨k 0 (by decide), k 1 (by decide), k 2 (by decide), k 3 (by decide)⟩
theorem WdCells.below {w w' : World} {g : Nat} {l : List Wd} (h : WdCells w g l) (hb : Below w.heap.size w w') : WdCells w' g l := fun i hi => by
  have k : ∀ {q j : Nat} {v : Value}, w.cell? ⟨q, j, none⟩ = some v → w'.cell? ⟨q, j, none⟩ = some v := fun {q j v} hc => (hb.cell (p := ⟨q, j, none⟩) (World.block_lt_of_cell? w _ hc)).trans hc
  obtain ⟨h0, h1, h2, h3⟩ := h i hi
  exact ⟨k h0, k h1, k h2, k h3⟩
set_option maxRecDepth 100000 in
set_option maxHeartbeats 2000000 in
theorem pair_words (h : Pr p m b n D s L r W) (hr : Rel D L) (hL : L.length ≤ 4999) :
    Calls Tryz.prog 16 #[.agg #[.pointer (some ⟨p, 0, none⟩), .pointer (some ⟨b, 0, none⟩)]] W fun e W' => e = .returned (.bool true) ∧ Below W.heap.size W W' := by
  have hB : Below W.heap.size W (W.alloc (.cells #[.pointer (some ⟨p, 0, none⟩), .pointer (some ⟨b, 0, none⟩)] 28)) := (Below.refl _ _).alloc (Nat.le_refl _) _
  have HP := Lib.hid (h.below hB)
  have HB := Lib.hid hB
  have HR := Lib.hid hr
  have k0 : (W.alloc (.cells #[.pointer (some ⟨p, 0, none⟩), .pointer (some ⟨b, 0, none⟩)] 28)).heap[W.heap.size]? = some (.cells #[.pointer (some ⟨p, 0, none⟩), .pointer (some ⟨b, 0, none⟩)] 28 (0, 0)) := World.alloc_heap_new _ _
  have c0 := Joins.cell_of_block k0 0
  have c1 := Joins.cell_of_block k0 1
  simp only [List.getElem?_toArray, List.getElem?_cons_zero, List.getElem?_cons_succ] at c0 c1
  clear h hB k0 hr
  go_enter Tryz.func16, Tryz.ntmps16
  go_wp2_with fail
  revert HB HP c0 c1
  generalize W.alloc (.cells #[.pointer (some ⟨p, 0, none⟩), .pointer (some ⟨b, 0, none⟩)] 28) = w0
  intro HP HB c0 c1
  ((with_reducible refine (words_p HP.out HR.out hL).mono ?_); rintro e w1 ⟨va, rfl, ha, hb1⟩)
  have HP1 := Lib.hid (HP.out.below hb1)
  have HB1 := Lib.hid (HB.out.trans (hb1.mono HB.out.size))
  have d1 := (hb1.cell (p := ⟨W.heap.size, 1, none⟩) (World.block_lt_of_cell? w0 _ c1)).trans c1
  have HA := Lib.hid ha
  clear hb1 ha c0 c1
  go_wp2_with fail
  ((with_reducible refine (words_r HP1.out hL).mono ?_); rintro e w2 ⟨vb, rfl, hb, hb2⟩)
  have HB2 := Lib.hid (HB1.out.trans (hb2.mono HB1.out.size))
  have hsn : (wordsF (L.map toWd)).length ≤ 5000 := by have := wordsF_le (L.map toWd) (L.map toWd).length; rw [List.take_length] at this; simp at this; omega
  rcases HA.out with ⟨rfl, h0⟩ | ⟨g, rfl, hrow, hpos⟩
  · rw [h0] at hb
    clear HA hsn d1
    rcases hb.2 with ⟨hv, _⟩ | ⟨g2, cap2, cur2, hv, _⟩
    · subst hv
      clear hb
      go_wp2_with fail
      refine wp_loop_rounds 1 ?_
      rw [rounds_succ]
      go_wp2_with fail
      go_ret
      exact ⟨rfl, HB2.out⟩
    · subst hv
      clear hb
      go_wp2_with fail
      refine wp_loop_rounds 1 ?_
      rw [rounds_succ]
      go_wp2_with fail
      go_ret
      exact ⟨rfl, HB2.out⟩
  · have HC := Lib.hid ((own_cells43 hrow).below hb2)
    generalize wordsF (L.map toWd) = sl at hb HC hpos hsn
    rcases hb.2 with ⟨_, hn0⟩ | ⟨g2, cap2, cur2, hv, _⟩
    · omega
    · subst hv
      have HD := Lib.hid (own_cells hb)
      clear hb hrow HA d1
      go_wp2_with fail
      go_loopw [5] (fun j wr => ∃ i d : Nat, i ≤ sl.length ∧ j = .int .i64 (i : Int) ∧ wr = w2.drewN d) (fun j _ => sl.length - (intOf j).toNat)
      case atStart => exact ⟨0, 0, Nat.zero_le _, rfl, rfl⟩
      case round =>
        obtain ⟨i, d, hi, rfl, rfl⟩ := hrel
        by_cases hlt : i < sl.length
        · obtain ⟨e0, e1, e2, e3⟩ := HC.out i hlt
          obtain ⟨f0, f1, f2, f3⟩ := HD.out i hlt
          have hlt' : (i : Int) < (sl.length : Int) := by omega
          have hge : (0 : Int) ≤ (i : Int) := by omega
          generalize sl.getD i wd0 = y at e0 e1 e2 e3 f0 f1 f2 f3
          have hq := neq_addr y.k y.a y.f
          go_wp2
          go_quiet (fail)
          go_wp2
          go_roundw
          case rel => exact ⟨i + 1, d + nq, by omega, by go_num, rfl⟩
          case measure => simp [intOf]; omega
        · have hge : (sl.length : Int) ≤ (i : Int) := by omega
          go_wp2
          go_ret
          exact ⟨rfl, below_drewNM' HB2.out _⟩
end
end Go.Proofs.YtmjcbjcnmgleaaaGreatDoor
namespace Go.Proofs.YtmjcbjcnmgleaaaGreatDoor
open Go.ChangeShapes Go.WideShapes Go.ChangeAt Go.WideMaps Go.WideElems Go.RowKit Go.Joins
structure AcP where
  kd : Int
  wh : Int
  lk : Int
  s : Sto
  hk : 0 ≤ kd ∧ kd ≤ 255
  hw : (Lit.int .i64 wh).wf = true
  hl : (Lit.int .i64 lk).wf = true
instance : Inhabited AcP := ⟨⟨0, 0, 0, default, by decide, by decide, by decide⟩⟩
def ActCells (W : World) (g off : Nat) (c : Nat → AcP) (n : Nat) : Prop := ∀ i, i < n →
  W.cell? ⟨g, off + i * 7, none⟩ = some (.int .u8 (c i).kd) ∧ W.cell? ⟨g, off + i * 7 + 1, none⟩ = some (.int .i64 (c i).wh) ∧ W.cell? ⟨g, off + i * 7 + 2, none⟩ = some (.int .i64 (c i).lk) ∧ W.cell? ⟨g, off + i * 7 + 3, none⟩ = some (.int .u8 (c i).s.x.k) ∧ W.cell? ⟨g, off + i * 7 + 4, none⟩ = some (.int .i64 (c i).s.x.a) ∧ W.cell? ⟨g, off + i * 7 + 5, none⟩ = some (.int .i64 (c i).s.x.f) ∧ W.cell? ⟨g, off + i * 7 + 6, none⟩ = some (.int .u64 (c i).s.v)
theorem ActCells.below {W W' : World} {g off : Nat} {c : Nat → AcP} {n : Nat} (h : ActCells W g off c n) (hb : Below W.heap.size W W') : ActCells W' g off c n := fun i hi => by
  have k : ∀ {q j : Nat} {v : Value}, W.cell? ⟨q, j, none⟩ = some v → W'.cell? ⟨q, j, none⟩ = some v := fun {q j v} hc => (hb.cell (p := ⟨q, j, none⟩) (World.block_lt_of_cell? W _ hc)).trans hc
  obtain ⟨h0, h1, h2, h3, h4, h5, h6⟩ := h i hi
  exact ⟨k h0, k h1, k h2, k h3, k h4, k h5, k h6⟩
theorem cellsAC : Tryz.prog.cellsOf 38 = 7 := by kernel_rfl
theorem byte_of {a : Int} (h : (Lit.int .u8 a).wf = true) : 0 ≤ a ∧ a ≤ 255 := by
  simp [Lit.wf, IntKind.min, IntKind.max, IntKind.signed, IntKind.bits] at h
  omega
section
variable {H : Type} {enc : TypeId × Value → H} {W : World} {r : Reach} {b0 base : Nat} {sp : Nat → Bool} {v : Value} {d : DataW H} {p : List MemPlace}
set_option maxRecDepth 100000 in
theorem open_act {fuel : Nat} {cs : List Value} {y : DataW H × List MemPlace} (h : DataW.trod enc Tryz.prog W base sp true fuel 38 cs = some y) :
    ∃ c : AcP, cs = [.int .u8 c.kd, .int .i64 c.wh, .int .i64 c.lk, .int .u8 c.s.x.k, .int .i64 c.s.x.a, .int .i64 c.s.x.f, .int .u64 c.s.v] := by
  obtain ⟨xs, n, rfl, _, hl, hxl, hf⟩ := DataW.trod_struct Tryz.underlying38 h
  rw [cellsAC] at hl
  match xs, hxl, cs, hl with
  | [y0, y1, y2, y3], _, [v0, v1, v2, v3, v4, v5, v6], _ =>
    have g0 : DataW.trod enc Tryz.prog W base sp true n 5 (([v0, v1, v2, v3, v4, v5, v6].drop 0).take (Tryz.prog.cellsOf 5)) = [y0, y1, y2, y3][0]? := hf 0 _ rfl
    have g1 : DataW.trod enc Tryz.prog W base sp true n 3 (([v0, v1, v2, v3, v4, v5, v6].drop 1).take (Tryz.prog.cellsOf 3)) = [y0, y1, y2, y3][1]? := hf 1 _ rfl
    have g2 : DataW.trod enc Tryz.prog W base sp true n 3 (([v0, v1, v2, v3, v4, v5, v6].drop 2).take (Tryz.prog.cellsOf 3)) = [y0, y1, y2, y3][2]? := hf 2 _ rfl
    have g3 : DataW.trod enc Tryz.prog W base sp true n 36 (([v0, v1, v2, v3, v4, v5, v6].drop 3).take (Tryz.prog.cellsOf 36)) = [y0, y1, y2, y3][3]? := hf 3 _ rfl
    simp only [cellsU8, cellsI, cellsST, List.drop_zero, List.drop_succ_cons, List.take_succ_cons, List.take_zero, List.getElem?_cons_zero, List.getElem?_cons_succ] at g0 g1 g2 g3
    obtain ⟨kd, e0, _, wk⟩ := DataW.trod_int Tryz.underlying5 g0
    obtain ⟨wh, e1, _, ww⟩ := DataW.trod_int Tryz.underlying3 g1
    obtain ⟨lk, e2, _, wm⟩ := DataW.trod_int Tryz.underlying3 g2
    obtain ⟨s, e3⟩ := open_sto g3
    simp only [List.cons.injEq, and_true] at e0 e1 e2 e3
    obtain ⟨a2, a3, a4, a5⟩ := e3
    subst e0 e1 e2 a2 a3 a4 a5
    exact ⟨⟨kd, wh, lk, s, byte_of wk, ww, wm⟩, rfl⟩
set_option maxRecDepth 100000 in
theorem open_acts (hv : Value.okWide Tryz.prog W r b0 22 v) (h : DataW.Trod enc Tryz.prog W base sp true 22 v d p) :
    v = .slice Option.none 0 0 ∨ ∃ g off len cap c, v = .slice (some ⟨g, off, Option.none⟩) len cap ∧ ActCells W g off c len := by
  obtain ⟨a0, len, cap, rfl⟩ := okWide_slice Tryz.underlying22 hv
  obtain ⟨fuel, hf⟩ := h
  rcases Go.Deep.open_slice Tryz.underlying22 hf with ⟨hcs, _⟩ | ⟨a, len', cap', m, n, D, Pl, hcs, _, hl, _, hm, _, hall⟩
  · simp [Value.cells] at hcs
    obtain ⟨rfl, rfl, rfl⟩ := hcs
    exact .inl rfl
  · simp [Value.cells] at hcs
    obtain ⟨rfl, rfl, rfl⟩ := hcs
    right
    have hs : a.spot = Option.none := by
      simp only [Value.okWide, Tryz.underlying22, Cell.okWide, Cell.ok] at hv
      exact hv.2.2.2.1
    obtain ⟨g, off, spot⟩ := a
    obtain rfl : spot = Option.none := hs
    have hlm : len ≤ m := by rw [hm]; split <;> omega
    obtain ⟨c, hc⟩ := Go.Deep.choose_lt (α := AcP) (p := fun i c => ∀ j u, [.int .u8 c.kd, .int .i64 c.wh, .int .i64 c.lk, .int .u8 c.s.x.k, .int .i64 c.s.x.a, .int .i64 c.s.x.f, .int .u64 c.s.v][j]? = some u → W.cell? ⟨g, off + i * 7 + j, Option.none⟩ = some u) (n := len) (fun i hi => by
      obtain ⟨cs', h1, h2⟩ := hall i (by omega)
      rw [cellsAC] at h1
      obtain ⟨_, hlen, hcell⟩ := World.cells?_some h1
      obtain ⟨c, rfl⟩ := open_act h2
      refine ⟨c, fun j u hu => ?_⟩
      have hj : j < 7 := by have := (List.getElem?_eq_some_iff.1 hu).1; simpa using this
      have := hcell j hj
      rw [core_plus, core_plus] at this
      rw [this, hu])
    exact ⟨g, off, len, cap, c, rfl, fun i hi => ⟨by simpa using hc i hi 0 _ rfl, hc i hi 1 _ rfl, hc i hi 2 _ rfl, hc i hi 3 _ rfl, hc i hi 4 _ rfl, hc i hi 5 _ rfl, hc i hi 6 _ rfl⟩⟩
end
end Go.Proofs.YtmjcbjcnmgleaaaGreatDoor
