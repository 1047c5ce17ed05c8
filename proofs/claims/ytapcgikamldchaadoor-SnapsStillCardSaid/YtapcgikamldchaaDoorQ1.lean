/-
  The keys of the program's map of words, collected: a list of all of them, in memory of its own; condition: the map's block reads as it says, at most a million words.
-/
import Derived.Test.YtapcgikamldchaaDoorK2
import Derived.RangeFuncBox
import Derived.Maps.AppendAt
import Derived.Outline
namespace Go.Proofs.YtapcgikamldchaaDoor
open Go.RowKit Go.Maps Go.Shelf

def Ad.cells (x : Ad) : List Value := [.int .u8 x.k, .int .i64 x.a, .int .i64 x.f]
def flatA (l : List Ad) : List Value := l.flatMap Ad.cells
theorem flatA_snoc (l : List Ad) (x : Ad) : flatA (l ++ [x]) = flatA l ++ x.cells := by simp [flatA]
theorem flatA_len (l : List Ad) : (flatA l).length = l.length * 3 := by
  induction l with
  | nil => rfl
  | cons x r ih =>
    show (x.cells ++ flatA r).length = _
    rw [List.length_append, ih]
    simp only [Ad.cells, List.length_cons, List.length_nil]
    omega
theorem Ad.one (x : Ad) : ∀ u ∈ x.cells, u.oneCell' = true := by
  intro u hu
  simp [Ad.cells] at hu
  rcases hu with rfl | rfl | rfl <;> rfl
theorem Tryd_info31 : (Tryd.prog.info? 42).map (fun i => (i.zero, i.size, i.bytes)) = some (some (.agg #[.int .u8 0, .int .i64 0, .int .i64 0]), 3, 24) := by kernel_rfl
theorem cells_new (w : World) (xs : List Value) (t : TypeId) : ∀ j u, xs[j]? = some u → (w.alloc (.cells xs.toArray t)).cell? ((⟨w.heap.size, 0, none⟩ : Addr).add j) = some u := by
  intro j u hj
  by_cases h : j = 0
  · subst h
    simp [Addr.add, hj]
  · simp [Addr.add, h, hj]
/-- A block of an address. -/
def Box3 (W : World) (B : Nat) (x : Ad) : Prop := W.heap[B]? = some (.cells #[.int .u8 x.k, .int .i64 x.a, .int .i64 x.f] 42 (0, 0))
theorem Box3.new (W : World) (x : Ad) : Box3 (W.alloc (.cells #[.int .u8 x.k, .int .i64 x.a, .int .i64 x.f] 42)) W.heap.size x := World.alloc_heap_new W _
theorem Box3.cell {W : World} {B : Nat} {x : Ad} (h : Box3 W B x) : W.cell? ⟨B, 0, none⟩ = some (.int .u8 x.k) ∧ W.cell? ⟨B, 1, none⟩ = some (.int .i64 x.a) ∧ W.cell? ⟨B, 2, none⟩ = some (.int .i64 x.f) := by
  refine ⟨?_, ?_, ?_⟩ <;> simp [World.cell?, show W.heap[B]? = _ from h]
theorem Box3.kept {W W' : World} {row : Option Nat} {B : Nat} {x : Ad} (h : Box3 W B x) (hg : W.grownBy W' row) (hne : some B ≠ row) : Box3 W' B x := (hg.block B (Array.getElem?_eq_some_iff.1 h).1 hne).trans h
theorem box3_own {β : Type} (B : Nat) (x : Ad) : Own (fun (_ : β) W => Box3 W B x) := fun s X Y row hs hg hrow =>
  hs.kept hg (fun e' => by obtain ⟨o, ho, hc⟩ := hrow B e'.symm; rw [show X.heap[B]? = _ from hs] at ho; cases ho; cases hc)

/-- What AppendSeq hands back. -/
def SeqPost {H : Type} (D0 : DataW H) (w : World) (e : Ending) (W' : World) : Prop :=
  ∃ (v : Value) (ss : List Ad), e = .returned v ∧ (ss.Nodup ∧ (∀ x : Ad, x ∈ ss ↔ has D0 x.lit = true) ∧ ss.length = Maps.size D0) ∧ W'.ownsRow w.heap.size 42 3 v ss.length (flatA ss) ∧ (v = .slice none 0 0 ↔ ss = []) ∧ Below w.heap.size w W'

set_option maxRecDepth 100000 in
set_option maxHeartbeats 2000000 in
theorem appendSeq_in {H : Type} (F : Fence) (n : Nat) (h41 : F.fn 56) (h37 : F.fn 49) (hro : F.round = none) (hn : 3 ≤ n) (Bm b nn : Nat) (D0 : DataW H) (hsz : Maps.size D0 ≤ 1000000) (w : World) (hBm : Bm < w.heap.size)
    (hm : w.cell? ⟨Bm, 0, none⟩ = some (.map (some b))) (hown : w.ownsMap Tryd.prog 42 (plainElem Tryd.prog 34) b nn D0) :
    CallsIn F n Tryd.prog 56 #[.slice none 0 0, .func (.func 49) #[] #[.pointer (some ⟨Bm, 0, none⟩)]] w (SeqPost D0 w) := by
  have h1 : 1 ≤ n := by omega
  obtain ⟨i0, hi, hz0, hz1, hz2⟩ := info_parts Tryd_info31
  refine callsIn_of_wp_marks Tryd.func56 rfl h41 ?_ hro
  simp only [Tryd.ntmps56, List.size_toArray, List.length_cons, List.length_nil, Nat.reduceAdd, Nat.reduceSub, Array.replicate_succ, Array.replicate_zero, List.push_toArray, List.append_toArray, List.nil_append, List.cons_append]
  gi_wp2
  have bO := Boxed.new w 97 (.slice none 0 0)
  have hB0 : Below w.heap.size w (w.alloc (.cells #[.slice none 0 0] 97)) := (Below.refl _ w).alloc (Nat.le_refl _) _
  have hszw : (w.alloc (.cells #[.slice none 0 0] 97)).heap.size = w.heap.size + 1 := by simp
  have hst := keys_stops F (n - 1) h37 hro (by omega) Bm b nn D0 (w.alloc (.cells #[.slice none 0 0] 97)) (by omega) ((hB0.cell (p := ⟨Bm, 0, none⟩) hBm).trans hm) (hown.alloc _)
  obtain ⟨W0, hW0⟩ : ∃ W0, w.alloc (.cells #[.slice none 0 0] 97) = W0 := ⟨_, rfl⟩
  rw [hW0] at bO hB0 hszw hst ⊢
  clear hW0
  refine wpIn_rangeFunc_ownH hro h1 (gf := 49) (lb := #[.pointer (some ⟨Bm, 0, none⟩)]) rfl h37 (enters_of Tryd.func49 (by kernel_rfl) rfl)
    hst walksK_t walksK_b (Below.refl _ _) (fun _ => rfl)
    (fun pre W => (∃ v, Boxed W w.heap.size 97 v ∧ W.ownsRow w.heap.size 42 3 v pre.length (flatA pre) ∧ (v = .slice none 0 0 ↔ pre = [])) ∧ Below w.heap.size w W)
    (fun _ _ _ => False)
    (OwnFrom.and (Own.from (holdsRow_own w.heap.size w.heap.size 97 42 3 (fun pre : List Ad => pre.length) (fun pre => flatA pre) (fun pre v => v = .slice none 0 0 ↔ pre = [])) _) (ownFrom_below (Nat.le_refl _) (by omega)))
    (fun _ _ _ _ _ hs _ _ => hs)
    ⟨⟨_, bO, World.ownsRow_nil _ _ _ _, by simp⟩, hB0⟩
    (fun x a' W => ∃ Bx, w.heap.size < Bx ∧ Box3 W Bx x ∧ a' = { tmps := #[.slice none 0 0, .func (.func 49) #[] #[.pointer (some ⟨Bm, 0, none⟩)], .pointer (some ⟨w.heap.size, 0, none⟩), undef, .slice none 0 0, .pointer (some ⟨Bx, 0, none⟩), .func (.func 49) #[] #[.pointer (some ⟨Bm, 0, none⟩)], x.v, undef, undef, undef, undef, undef], defers := [] })
    (fun x a' _ X Y row hs hg hr => by obtain ⟨Bx, h1, h2, h3⟩ := hs; exact ⟨Bx, h1, box3_own Bx x () X Y row h2 hg (fun r e => (hr r e).2), h3⟩)
    ?assign ?body ?done ?stop
  case assign =>
    rintro l pre x W K ⟨⟨v, hv, hrow, hnil⟩, hB1⟩ hK
    simp only [Ad.v, addrV] at hK ⊢
    gi_wp2_with (rw [Oper.semAt_eq _ _ _ (fun c h => by cases h)]; go_simp; try go_bits)
    exact hK _ _ ((KeepsOthers.alloc _ _).from _) (KeepsOthers.alloc _ _).walks ⟨⟨v, hv.alloc _, hrow.alloc _, hnil⟩, hB1.alloc hB1.size _⟩ ⟨W.heap.size, hv.lt, Box3.new W x, rfl⟩
  case body =>
    rintro l pre x a' W hl ⟨r, hr⟩ ⟨⟨v, hv, hrow, hnil⟩, hB1⟩ ⟨Bx, hBx, bX, rfl⟩ hlt
    have hc := hv.cell
    obtain ⟨x0, x1, x2⟩ := bX.cell
    simp only [Ad.v, addrV]
    gi_wp2_with (first | (gi_at_builtin; refine wpListIn_append_own _ rfl _ _ 97 rfl w.heap.size 42 i0 (.agg #[.int .u8 0, .int .i64 0, .int .i64 0]) 3 24 Tryd.underlying97 hi hz0 hz1 hz2 rfl (by decide) _ _ _ rfl (hrow.alloc _) ⟨W.heap.size, 0, none⟩ 1 1 x.cells rfl rfl (cells_new _ _ _) x.one (by unfold maxLen; omega) (by omega) (by have := hB1.size; simp; omega) ?_; intro v' w1 hown' hgrow _; obtain ⟨g', cap', rfl⟩ := ownsRow_succ hown'; obtain ⟨hv1, hv2, hr2, hk2, hb2⟩ := hv.appended (by decide) hrow hB1.size (Nat.le_refl _) hown' hgrow; have hc1 := hv1.cell; have hf1 := hv1.frozen) | (rw [Oper.semAt_eq _ _ _ (fun c h => by cases h)]; go_simp; try go_bits))
    exact ⟨hk2.from _, hk2.walks, ⟨_, hv2, by rw [flatA_snoc]; simpa using hr2, by simp⟩, hB1.trans hb2⟩
  case done =>
    rintro D ys W hD hS ⟨⟨v, hv, hrow, hnil⟩, hB⟩ hK
    have hc := hv.cell
    gi_wp2
    refine ⟨by simp, .inl ⟨_, _, rfl, run_takeDeferred hK, ?_⟩⟩
    exact ⟨_, results_tmp rfl _ _ _, v, ys, rfl, hS, ownsRow_putObj hrow _ hK rfl, hnil, hB.trans (belowK_b (w := w) (Nat.le_refl _) W D _ _ (by omega) hK rfl rfl)⟩
  case stop =>
    rintro D c pre W _ _ h _
    exact h.elim
end Go.Proofs.YtapcgikamldchaaDoor
