/-
  The program's words, told: all that are not 0, by kind, place and field, in memory of their own with no room behind; condition: the memory lies as it says, at most a million words.
-/
import Derived.Test.YtipgidkpjilhoaaDoorI1
import Derived.Laws.OwnMore
import Derived.Deep.DeepAppendRoom
import Derived.Outline
namespace Go.Proofs.YtipgidkpjilhoaaDoor
open Go.Shelf Go.RowKit Go.Lib Go.Sort Go.Maps

def wordCells (x : Ad × Int) : List Value := [.int .u8 x.1.k, .int .i64 x.1.a, .int .i64 x.1.f, .int .u64 x.2]
def flatW (l : List (Ad × Int)) : List Value := l.flatMap wordCells
theorem flatW_snoc (l : List (Ad × Int)) (x : Ad × Int) : flatW (l ++ [x]) = flatW l ++ wordCells x := by simp [flatW]
theorem word_one (x : Ad × Int) : ∀ u ∈ wordCells x, u.oneCell' = true := by
  intro u hu
  simp [wordCells] at hu
  rcases hu with rfl | rfl | rfl | rfl <;> rfl
theorem Tryd_info43 : (Tryd.prog.info? 103).map (fun i => (i.zero, i.size, i.bytes)) = some (some (.agg #[.int .u8 0, .int .i64 0, .int .i64 0, .int .u64 0]), 4, 32) := by kernel_rfl

/-- An append with room, where a round may be called: the same array, the same room. -/
theorem wpListIn_append_fits {F : Fence} {n : Nat} {P : Program} (w : World) {ops : Array Oper} {rest : List Oper} {o : Oper} {a : Act} {Q : Exit → Act → World → Prop}
    (hg : o.guard = none) (s x : Operand) (t : TypeId) (hop : o.op = Op.call { callee := Callee.builtin Builtin.append, args := #[s, x], argTypes := #[t, t] })
    (base : Nat) (e : TypeId) (i : TypeInfo) (size : Nat) (h1 : P.underlying t = some (.slice e)) (h2 : P.info? e = some i) (h4 : i.size = size)
    (g k cap : Nat) (xs : List Value) (hs : a.eval s = .slice (some ⟨g, 0, none⟩) k cap) (hown : w.ownsRow base e size (.slice (some ⟨g, 0, none⟩) k cap) k xs) (ad : Addr) (m c : Nat) (news : List Value) (hx : a.eval x = .slice (some ad) m c) (hn : news.length = m * size)
    (hc : ∀ j u, news[j]? = some u → w.cell? (ad.add j) = some u) (h1c : ∀ u ∈ news, u.oneCell' = true) (hroom : k + m ≤ cap)
    (hK : ∀ w', w'.ownsRow base e size (.slice (some ⟨g, 0, none⟩) (k + m) cap) (k + m) (xs ++ news) → w.grownBy w' (some g) → wpListIn F n P ops Q rest (a.put o.dst (.slice (some ⟨g, 0, none⟩) (k + m) cap)) w') :
    wpListIn F n P ops Q (o :: rest) a w := by
  refine wpListIn_plain hg fun K hK' => ?_
  obtain ⟨w', hrun, r1, r2⟩ := run_append_own_spare (P := P) w base t o.type e i size h1 h2 h4 g k cap xs hown ad m c news hn hc h1c hroom
  unfold Oper.wpIn
  refine ⟨?_, ?_⟩
  · simp [Oper.about, hop, resolve, Target.leads, Sem.run_pure]
  · rw [Oper.semAt_plain F _ _ (by rw [hop]; intro c hc'; cases hc')]
    simp [execOp, hop, resolve, invoke, builtin, hs, hx, hrun, Result.andThen]
    exact hK' _ _ (hK w' r1 r2)

/-- What Words hands back. -/
def WordsPost {H : Type} (D0 : DataW H) (w : World) (e : Ending) (W' : World) : Prop :=
  ∃ (g : Nat) (ts : List Ad), e = .returned (.slice (some ⟨g, 0, none⟩) ts.length ts.length) ∧ Addrs D0 ts ∧
    W'.ownsRow w.heap.size 103 4 (.slice (some ⟨g, 0, none⟩) ts.length ts.length) ts.length (flatW (wordsOf D0 ts)) ∧ Below w.heap.size w W'

/-- A block of a word. -/
def Box4 (W : World) (B : Nat) (x : Ad × Int) : Prop := W.heap[B]? = some (.cells #[.int .u8 x.1.k, .int .i64 x.1.a, .int .i64 x.1.f, .int .u64 x.2] 103 (0, 0))
theorem Box4.cell {W : World} {B : Nat} {x : Ad × Int} (h : Box4 W B x) : W.cell? ⟨B, 0, none⟩ = some (.int .u8 x.1.k) ∧ W.cell? ⟨B, 1, none⟩ = some (.int .i64 x.1.a) ∧ W.cell? ⟨B, 2, none⟩ = some (.int .i64 x.1.f) ∧ W.cell? ⟨B, 3, none⟩ = some (.int .u64 x.2) := by
  refine ⟨?_, ?_, ?_, ?_⟩ <;> simp [World.cell?, show W.heap[B]? = _ from h]
/-- What stands between two rounds. -/
structure Told (w : World) (B c : Nat) (pre : List (Ad × Int)) (W : World) : Prop where
  box : Boxed W B 100 (.slice (some ⟨w.heap.size, 0, none⟩) pre.length c)
  row : W.ownsRow w.heap.size 103 4 (.slice (some ⟨w.heap.size, 0, none⟩) pre.length c) pre.length (flatW pre)
  low : Below w.heap.size w W
theorem Told.row_lt {w : World} {B c : Nat} {pre : List (Ad × Int)} {W : World} (h : Told w B c pre W) : ∃ cur, W.heap[w.heap.size]? = some (.cells cur 103 (0, 0)) := by
  rcases h.row.2 with ⟨hv, _⟩ | ⟨g', cap', cur, hv, _, hb, _⟩
  · cases hv
  · cases hv
    exact ⟨cur, hb⟩
theorem Told.turned {w : World} {B c B' : Nat} {pre : List (Ad × Int)} {X Y : World} (h : Told w B c pre X) (ht : Turned B' X Y) (hB : B < B') (hw : w.heap.size < B') : Told w B c pre Y := by
  obtain ⟨cur, hb⟩ := h.row_lt
  have hlt := (Array.getElem?_eq_some_iff.1 hb).1
  refine ⟨(ht.block B h.box.lt (by omega) (by omega)).trans h.box, ⟨h.row.1, ?_⟩, ⟨ht.os.trans h.low.os, ht.tape.trans h.low.tape, ht.output.trans h.low.output, Nat.le_trans h.low.size ht.size, fun k hk => (ht.block k (by omega) (by omega) (by omega)).trans (h.low.block k hk)⟩⟩
  rcases h.row.2 with ⟨hv, _⟩ | ⟨g', cap', cur', hv, hbase, hb', rest⟩
  · cases hv
  · cases hv
    exact .inr ⟨_, _, cur', rfl, hbase, (ht.block _ hlt (by omega) (by omega)).trans hb', rest⟩
theorem Told.grown {w : World} {B c : Nat} {pre : List (Ad × Int)} {X Y : World} (h : Told w B c pre X) (hg : Grown X Y) : Told w B c pre Y := by
  obtain ⟨cur, hb⟩ := h.row_lt
  have hlt := (Array.getElem?_eq_some_iff.1 hb).1
  refine ⟨(hg.block B h.box.lt).trans h.box, ⟨h.row.1, ?_⟩, h.low.trans (Below.mono hg h.low.size)⟩
  rcases h.row.2 with ⟨hv, _⟩ | ⟨g', cap', cur', hv, hbase, hb', rest⟩
  · cases hv
  · cases hv
    exact .inr ⟨_, _, cur', rfl, hbase, (hg.block _ hlt).trans hb', rest⟩

set_option maxRecDepth 100000 in
set_option maxHeartbeats 4000000 in
theorem words_in {H : Type} (n p b nn : Nat) (D0 : DataW H) (hsz : Maps.size D0 ≤ 1000000) (hpos : 0 < Maps.size D0) (cp : Array Value) (frp : Nat × Nat) (w : World) (hp : w.heap[p]? = some (.cells cp 107 frp)) (hp0 : cp[0]? = some (.map (some b)))
    (hown : w.ownsMap Tryd.prog 33 (plainElem Tryd.prog 34) b nn D0) (hn : 3 ≤ n) :
    CallsIn Fence.wide n Tryd.prog 41 #[.pointer (some ⟨p, 0, none⟩)] w (WordsPost D0 w) := by
  have h1 : 1 ≤ n := by omega
  obtain ⟨i0, hi, hz0, hz1, hz2⟩ := info_parts Tryd_info43
  have hcell : w.cell? ⟨p, 0, none⟩ = some (.map (some b)) := by simp [World.cell?, hp, hp0]
  have hlen := hown.len Tryd.underlying105 3
  have hz : (((Maps.size D0 : Nat) : Int) == 0) = false := by simp; omega
  obtain ⟨wm, hmk, hrow0, hgr0⟩ := run_make_own (P := Tryd.prog) w w.heap.size 100 103 i0 _ 4 Tryd.underlying100 hi hz0 hz1 .i64 .i64 (Maps.size D0) (by rw [hz2]; omega) (by unfold maxLen; omega) (Nat.le_refl _)
  have HO := Lib.hid hown
  have HP := Lib.hid hp
  have HR0 := Lib.hid hrow0
  have HG0 := Lib.hid (Grown.of_none hgr0)
  clear hrow0 hgr0 hown hp
  refine callsIn_of_wp_marks Tryd.func41 rfl trivial ?_ rfl
  simp only [Tryd.ntmps41, List.size_toArray, List.length_cons, List.length_nil, Nat.reduceAdd, Nat.reduceSub, Array.replicate_succ, Array.replicate_zero, List.push_toArray, List.append_toArray, List.nil_append, List.cons_append]
  gi_wp2
  obtain ⟨cur0, hcur0⟩ : ∃ cur, wm.heap[w.heap.size]? = some (.cells cur 103 (0, 0)) := by
    rcases HR0.out.2 with ⟨hv, _⟩ | ⟨g', cap', cur, hv, _, hb, _⟩
    · cases hv
    · cases hv
      exact ⟨cur, hb⟩
  have hRB : w.heap.size < wm.heap.size := (Array.getElem?_eq_some_iff.1 hcur0).1
  have bO := Boxed.new wm 100 (.slice (some ⟨w.heap.size, 0, none⟩) 0 (Maps.size D0))
  have hG0 : Grown w (wm.alloc (.cells #[.slice (some ⟨w.heap.size, 0, none⟩) 0 (Maps.size D0)] 100)) := Grown.trans HG0.out (Grown.alloc _ _)
  have hT0 : Told w wm.heap.size (Maps.size D0) [] (wm.alloc (.cells #[.slice (some ⟨w.heap.size, 0, none⟩) 0 (Maps.size D0)] 100)) := ⟨bO, HR0.out.alloc _, hG0⟩
  have hs0 : (wm.alloc (.cells #[.slice (some ⟨w.heap.size, 0, none⟩) 0 (Maps.size D0)] 100)).heap.size = wm.heap.size + 1 := by simp
  have hpl := (Array.getElem?_eq_some_iff.1 HP.out).1
  have hbl := HO.out.lt
  have hyi := inOrder_yields (n - 1) p b nn wm.heap.size w.heap.size D0 hsz hpos cp frp _ (hG0.cells HP.out) hp0 (by omega) (by omega) (hG0.owns HO.out) (by omega) (by omega) (by omega) (by omega) (by omega)
  clear bO hcell hlen hmk hcur0 hG0
  revert hT0 hs0 hyi
  generalize wm.alloc (.cells #[.slice (some ⟨w.heap.size, 0, none⟩) 0 (Maps.size D0)] 100) = W0
  intro hT0 hs0 hyi
  refine range_bound (gf := 61) (rv := .pointer (some ⟨p, 0, none⟩)) rfl (enters_of Tryd.func61 (by kernel_rfl) rfl) (fun _ => rfl) hyi Spares.trans Spares.of_grown (fun W r r' h => Spares.loop W r r' h)
    (Told w wm.heap.size (Maps.size D0)) (fun s X Y h ht => h.turned ht (by omega) (by omega)) hT0
    (fun x a' W => ∃ Bx, Bx ≠ W0.heap.size ∧ Bx ≠ W0.heap.size + 1 ∧ Box4 W Bx x ∧ a' = { tmps := #[.pointer (some ⟨p, 0, none⟩), undef, .slice none 0 0, .pointer (some ⟨wm.heap.size, 0, none⟩), .pointer (some ⟨Bx, 0, none⟩),
          .pointer (some ⟨p, 0, none⟩), .bool false, .bool false, .pointer (some ⟨p, 0, none⟩), .pointer (some ⟨p, 0, none⟩), .pointer (some ⟨p, 0, none⟩), .map (some b), .int .i64 (Maps.size D0 : Int),
          .bool false, .bool false, .pointer (some ⟨p, 0, none⟩), .pointer (some ⟨p, 0, none⟩), .pointer (some ⟨p, 0, none⟩), .map (some b), .int .i64 (Maps.size D0 : Int), .slice (some ⟨w.heap.size, 0, none⟩) 0 (Maps.size D0),
          .pointer (some ⟨p, 0, none⟩), .func (.func 61) #[.pointer (some ⟨p, 0, none⟩)] #[], wordV x, undef, undef, undef, undef, undef], defers := [] })
    (fun x a' s X Y h ht => by obtain ⟨Bx, h1, h2, h3, h4⟩ := h; exact ⟨Bx, h1, h2, (ht.block Bx (Array.getElem?_eq_some_iff.1 h3).1 h1 h2).trans h3, h4⟩)
    ?assign ?body ?done
  case assign =>
    intro l pre x W K hW hI hK
    simp only [wordV] at hK ⊢
    gi_wp2_with (rw [Oper.semAt_eq _ _ _ (fun c h => by cases h)]; go_simp; try go_bits)
    exact hK _ _ (Grown.alloc _ _) (hI.grown (Grown.alloc _ _)) ⟨W.heap.size, by omega, by omega, World.alloc_heap_new W _, rfl⟩
  case body =>
    rintro l pre x a' W ⟨r, hr⟩ hI ⟨Bx, hx1, hx2, hbx, rfl⟩ hlt
    have hc := hI.box.cell
    obtain ⟨x0, x1, x2, x3⟩ := hbx.cell
    have HI := Lib.hid hI
    have hsW := hI.low.size
    simp only [wordV]
    clear hI hT0
    gi_wp2_with (first | (gi_at_builtin; refine wpListIn_append_fits _ rfl _ _ 100 rfl w.heap.size 103 i0 4 Tryd.underlying100 hi hz1 w.heap.size pre.length (Maps.size D0) (flatW pre) rfl (HI.out.row.alloc _) ⟨W.heap.size, 0, none⟩ 1 1 (wordCells x) rfl rfl (cells_new _ _ _) (word_one x) (by omega) ?_; intro w1 hown' hgrow; have HW := Lib.hid hown'; have HGR := Lib.hid hgrow; obtain ⟨hv1, hv2, hr2, hk2, hb2⟩ := HI.out.box.appended (by decide) HI.out.row hsW (Nat.le_of_lt hRB) hown' hgrow; have HV2 := Lib.hid hv2; have HR2 := Lib.hid hr2; have HB2 := Lib.hid hb2; have hc1 := hv1.cell; have hf1 := hv1.frozen; clear hown' hgrow hv1 hv2 hr2 hk2 hb2) | (rw [Oper.semAt_eq _ _ _ (fun c h => by cases h)]; go_simp; try go_bits))
    have hrl := (Array.getElem?_eq_some_iff.1 hr).1
    have same : ∀ q, q < W.heap.size → q ≠ wm.heap.size → q ≠ w.heap.size → (w1.setCell ⟨wm.heap.size, 0, none⟩ (.slice (some ⟨w.heap.size, 0, none⟩) (pre.length + 1) (Maps.size D0))).heap[q]? = W.heap[q]? := fun q hq h1 h2 =>
      (Below.heap_setCell _ _ _ q h1).trans ((HGR.out.block q (by simp; omega) (by simp; omega)).trans (Below.heap_alloc W _ q hq))
    refine ⟨same _ (by omega) (by omega) (by omega), same _ (by omega) (by omega) (by omega), ⟨HB2.out.size, fun q o ho h1 h2 _ => (same q (Array.getElem?_eq_some_iff.1 ho).1 h1 h2).trans ho⟩, ⟨?_, ?_, HI.out.low.trans HB2.out⟩⟩
    · simpa using HV2.out
    · rw [flatW_snoc]; simpa using HR2.out
  case done =>
    rintro xs W ⟨ts, hts, rfl⟩ hI hK
    have hc := hI.box.cell
    have HI := Lib.hid hI
    have HT := Lib.hid hts
    have HL := Lib.hid hts.2.2
    have HK := Lib.hid hK
    clear hI hts hT0
    gi_wp2
    refine ⟨by simp, .inl ⟨_, _, rfl, run_takeDeferred HK.out, ?_⟩⟩
    have el : (wordsOf D0 ts).length = ts.length := by simp [wordsOf]
    have hr := HI.out.row
    rw [el, ← HL.out] at hr
    refine ⟨_, results_tmp rfl _ _ _, w.heap.size, ts, ?_, HT.out, ownsRow_putObj hr _ HK.out rfl, HI.out.low.trans (belowK_b (w := w) (Nat.le_refl _) W W0.heap.size _ _ (by omega) HK.out rfl rfl)⟩
    show Ending.returned (.slice (some ⟨w.heap.size, 0, none⟩) (wordsOf D0 ts).length (Maps.size D0)) = _
    rw [el, HL.out]

theorem words_any {H : Type} (p b nn : Nat) (D0 : DataW H) (hsz : Maps.size D0 ≤ 1000000) (hpos : 0 < Maps.size D0) (cp : Array Value) (frp : Nat × Nat) (w : World) (hp : w.heap[p]? = some (.cells cp 107 frp)) (hp0 : cp[0]? = some (.map (some b)))
    (hown : w.ownsMap Tryd.prog 33 (plainElem Tryd.prog 34) b nn D0) : Calls Tryd.prog 41 #[.pointer (some ⟨p, 0, none⟩)] w (WordsPost D0 w) :=
  callsIn_wide.1 (words_in 3 p b nn D0 hsz hpos cp frp w hp hp0 hown (Nat.le_refl _))
/-- .. of a memory that is not there, that no call made, or that has nothing. -/
theorem words_nil (w : World) : Calls Tryd.prog 41 #[.pointer none] w fun e w' => e = .returned (.slice none 0 0) ∧ w = w' := by
  go_enter Tryd.func41, Tryd.ntmps41
  go_wp2
  go_ret
  exact ⟨rfl, rfl⟩
theorem words_void (p : Nat) (w : World) (hp : w.cell? ⟨p, 0, none⟩ = some (.map none)) : Calls Tryd.prog 41 #[.pointer (some ⟨p, 0, none⟩)] w fun e w' => e = .returned (.slice none 0 0) ∧ w = w' := by
  have hl := Maps.len_nil (w := w) Tryd.underlying105 3
  go_enter Tryd.func41, Tryd.ntmps41
  go_wp2
  go_ret
  exact ⟨rfl, rfl⟩
theorem words_none {H : Type} (p b nn : Nat) (D0 : DataW H) (hz : Maps.size D0 = 0) (w : World) (hp : w.cell? ⟨p, 0, none⟩ = some (.map (some b))) (hown : w.ownsMap Tryd.prog 33 (plainElem Tryd.prog 34) b nn D0) :
    Calls Tryd.prog 41 #[.pointer (some ⟨p, 0, none⟩)] w fun e w' => e = .returned (.slice none 0 0) ∧ w = w' := by
  have hl := hown.len Tryd.underlying105 3
  rw [hz] at hl
  clear hown hz
  go_enter Tryd.func41, Tryd.ntmps41
  go_wp2
  go_ret
  exact ⟨rfl, rfl⟩
end Go.Proofs.YtipgidkpjilhoaaDoor
