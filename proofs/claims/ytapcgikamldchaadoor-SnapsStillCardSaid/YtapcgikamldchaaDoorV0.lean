/-
  A range over a method's value (an iterator with its receiver bound), whose body leaves no round early: what a caller owes; no condition.
  The program's walk through its words in order: each word that the map has, by kind, place and field, whatever the loop's body, as long as it leaves the map, the memory and the list of keys alone; condition: the memory lies as it says, at least one word and at most a million.
  The program's words, told: all that are not 0, by kind, place and field, in memory of their own with no room behind; condition: the memory lies as it says, at most a million words.
-/
import Derived.Test.YtapcgikamldchaaDoorT1
import Derived.Outline
import Derived.Laws.OwnMore
import Derived.Deep.DeepAppendRoom
namespace Go.Proofs.YtapcgikamldchaaDoor
open Go.RowKit

/-- Nothing has turned but two blocks of book-keeping. -/
structure TurnedV (B : Nat) (X Y : World) : Prop where
  os : Y.os = X.os
  tape : Y.tape = X.tape
  output : Y.output = X.output
  size : X.heap.size ≤ Y.heap.size
  block : ∀ q, q < X.heap.size → q ≠ B → q ≠ B + 1 → Y.heap[q]? = X.heap[q]?
/-- It abides new blocks, and whatever becomes of the loop's two blocks of book-keeping. -/
def Keeps {β : Type} (B : Nat) (I : β → World → Prop) : Prop := ∀ s X Y, I s X → TurnedV B X Y → I s Y
/-- New blocks alone. -/
def Grown (X Y : World) : Prop := Below X.heap.size X Y
theorem Grown.size {X Y : World} (h : Grown X Y) : X.heap.size ≤ Y.heap.size := Below.size h
theorem Grown.block {X Y : World} (h : Grown X Y) : ∀ q, q < X.heap.size → Y.heap[q]? = X.heap[q]? := fun q hq => Below.block h q hq
theorem Grown.turned {X Y : World} (h : Grown X Y) (B : Nat) : TurnedV B X Y := ⟨Below.os h, Below.tape h, Below.output h, h.size, fun q hq _ _ => h.block q hq⟩
theorem Grown.of_none {X Y : World} (h : X.grownBy Y none) : Grown X Y := (Below.refl _ X).grown h (Nat.le_refl _) (fun k e => by cases e)
theorem Grown.alloc (X : World) (o : Obj) : Grown X (X.alloc o) := Grown.of_none (World.grownBy_alloc X o none)
theorem Grown.trans {X Y Z : World} (h : Grown X Y) (k : Grown Y Z) : Grown X Z := Below.trans h (Below.mono k h.size)

/-- How a round ends. -/
def roundEnds {α : Type} (B : Nat) (Kp : World → World → Prop) (I : List α → World → Prop) (xs : List α) (W : World) : Exit → Act → World → Prop
  | .normal, _, W' => W'.heap[B]? = W.heap[B]? ∧ W'.heap[B + 1]? = W.heap[B + 1]? ∧ Kp W W' ∧ I xs W'
  | .ret, _, _ => False
  | .exit _, _, _ => False
  | .goto _, _, _ => False
  | .panic _, _, _ => False
  | .outgrown, _, _ => False

/-- An iterator's contract, its receiver bound ahead. -/
def Yields1 {α : Type} (n : Nat) (P : Program) (gf : Nat) (rv : Value) (encs : α → Array Value) (Kp : World → World → Prop) (S : List α → Prop) (N : Nat) (w : World) : Prop :=
  ∀ (l : Nat) (J : List α → World → Prop) (W : World), Grown w W → (∀ s X Y, J s X → Grown X Y → J s Y) →
    (∀ pre x W1, J pre W1 → pre.length < N → YieldAt Fence.wide (n - 1) P l (encs x) W1 fun e W' => e = .returned (.bool true) ∧ J (pre ++ [x]) W' ∧ Kp W1 W') → J [] W →
    CallsIn Fence.wide n P gf #[rv, .func (.yield l) #[] #[]] W fun e W' => (∃ v, e = .returned v) ∧ ∃ xs, S xs ∧ J xs W'

theorem range_bound {α : Type} {n : Nat} {P : Program} {w : World} {g : Operand} {ps : Array Tmp} {assign body : Code} {Q : Exit → Act → World → Prop} {a : Act}
    {gf : Nat} {rv : Value} (hg : a.eval g = .func (.func gf) #[rv] #[]) (eg : ∀ args w, (callFunc gf args).run P w = .ok (.enter gf args) w)
    {encs : α → Array Value} (hps : ∀ x, (encs x).size = ps.size) {Kp : World → World → Prop} {S : List α → Prop} {N : Nat} (hseq : Yields1 (n - 1) P gf rv encs Kp S N w)
    (hKt : ∀ {X Y Z : World}, Kp X Y → Kp Y Z → Kp X Z) (hKg : ∀ {X Y : World}, Grown X Y → Kp X Y) (hKl : ∀ (W : World) (r r' : Loop), W.heap[w.heap.size + 1]? = some (.loop r) → Kp W (W.putObj (w.heap.size + 1) (.loop r')))
    (I : List α → World → Prop) (hI : Keeps w.heap.size I) (h0 : I [] w) (Ax : α → Act → World → Prop) (hAx : ∀ x a', Keeps w.heap.size (fun (_ : Unit) W => Ax x a' W))
    (hassign : ∀ (l : Nat) (pre : List α) (x : α) (W : World) (K : Act → World → Prop), w.heap.size + 1 < W.heap.size → I pre W → (∀ a' W', Grown W W' → I pre W' → Ax x a' W' → K a' W') →
      assign.wpIn (Fence.wide.inRound l) (n - 1 - 1) P (Exit.then K (fun _ _ _ => False)) { tmps := (ps.zip (encs x)).foldl (fun t (p, v) => t.setIfInBounds p v) a.tmps, defers := [] } W)
    (hbody : ∀ (l : Nat) (pre : List α) (x : α) (a' : Act) (W : World), (∃ r, W.heap[w.heap.size + 1]? = some (.loop r)) → I pre W → Ax x a' W → pre.length < N → body.wpIn (Fence.wide.inRound l) (n - 1 - 1) P (roundEnds w.heap.size Kp I (pre ++ [x]) W) a' W)
    (hdone : ∀ (xs : List α) (W : World), S xs → I xs W → W.heap[w.heap.size]? = some (.deferred (some [])) → Q .normal { a with defers := { target := .collected w.heap.size, args := #[] } :: a.defers } W) :
    (Code.rangeFunc g ps assign body).wpIn Fence.wide n P Q a w := by
  refine wpIn_rangeFunc ?_
  intro fn hfn
  show ∃ l mark w₁ d w₁' f args w₂, (Instr.enterLoop fn a.tmps ps assign body none).run P w = .ok (l, mark) w₁ ∧ _
  obtain ⟨rec, hrec⟩ : ∃ rec : LoopState → Loop, rec = fun st => { state := st, pending := none, fn, tmps := a.tmps, params := ps, assign, body, defers := w.heap.size } := ⟨_, rfl⟩
  obtain ⟨W1, hW1⟩ : ∃ W1, (w.alloc (.deferred (some []))).alloc (.loop (rec .ready)) = W1 := ⟨_, rfl⟩
  have hL1 : W1.heap[w.heap.size + 1]? = some (.loop (rec .ready)) := by
    rw [← hW1]; have := World.alloc_heap_new (w.alloc (.deferred (some []))) (.loop (rec .ready)); rwa [World.size_alloc] at this
  have hK1 : W1.heap[w.heap.size]? = some (.deferred (some [])) := by
    rw [← hW1]; exact (Below.heap_alloc _ _ _ (by simp)).trans (World.alloc_heap_new w _)
  have hG1 : Grown w W1 := by rw [← hW1]; exact (Grown.alloc _ _).trans (Grown.alloc _ _)
  have hI1 : I [] W1 := hI [] w W1 h0 (hG1.turned _)
  have put : ∀ (W : World) (r r' : Loop), W.heap[w.heap.size + 1]? = some (.loop r) → TurnedV w.heap.size W (W.putObj (w.heap.size + 1) (.loop r')) :=
    fun W r r' _ => ⟨rfl, rfl, rfl, by simp, fun q _ _ h2 => World.putObj_heap_other h2⟩
  refine ⟨w.heap.size + 1, [{ target := .collected w.heap.size, args := #[] }], W1, { target := .fn (.func gf) #[], args := #[rv, .func (.yield (w.heap.size + 1)) #[] #[]] }, W1, gf,
    #[rv, .func (.yield (w.heap.size + 1)) #[] #[]], W1, ?_, ?_, ?_, ?_, fun e => (by cases e), ?_⟩
  · rw [← hW1, hrec]; exact run_enterLoop_outer _ _ _ _ _
  · simp only [resolve, hg]
    simp [go_sem]
  · intro f' _; trivial
  · simp [invoke, go_sem, eg]
  · refine (hseq (w.heap.size + 1) (fun pre W => I pre W ∧ W.heap[w.heap.size + 1]? = some (.loop (rec .ready)) ∧ W.heap[w.heap.size]? = some (.deferred (some []))) W1 hG1
      (fun s X Y hs hg' => ⟨hI s X Y hs.1 (hg'.turned _), (hg'.block _ (Array.getElem?_eq_some_iff.1 hs.2.1).1).trans hs.2.1, (hg'.block _ (Array.getElem?_eq_some_iff.1 hs.2.2).1).trans hs.2.2⟩)
      ?_ ⟨hI1, hL1, hK1⟩).mono ?_
    · rintro pre x W ⟨hi, hl, hk⟩ hlen
      have hy := run_yield (P := P) (args := encs x) hl (by rw [hrec]; exact hps x)
      rw [hrec] at hy
      refine ⟨fn, _, assign, body, hy, roundIn_of_wpIn hfn (hassign _ pre x W _ (Array.getElem?_eq_some_iff.1 hl).1 hi ?_)⟩
      clear hy
      intro a' Wa hga hia hax
      replace hl := (hga.block _ (Array.getElem?_eq_some_iff.1 hl).1).trans hl
      replace hk := (hga.block _ (Array.getElem?_eq_some_iff.1 hk).1).trans hk
      have hlt : w.heap.size + 1 < Wa.heap.size := (Array.getElem?_eq_some_iff.1 hl).1
      refine ⟨_, run_beginRound hl (by rw [hrec]), ?_⟩
      obtain ⟨Wb, hWb⟩ : ∃ Wb, Wa.putObj (w.heap.size + 1) (.loop { rec .ready with state := .busy }) = Wb := ⟨_, rfl⟩
      rw [hWb]
      have hl2 : Wb.heap[w.heap.size + 1]? = some (.loop { rec .ready with state := .busy }) := by rw [← hWb]; exact World.putObj_heap_same hlt
      have hk2 : Wb.heap[w.heap.size]? = some (.deferred (some [])) := by rw [← hWb]; exact (World.putObj_heap_other (by omega)).trans hk
      have hq := put Wa (rec .ready) { rec .ready with state := .busy } hl
      rw [hWb] at hq
      have hib : I pre Wb := hI pre Wa Wb hia hq
      have hab : Ax x a' Wb := hAx x a' () Wa Wb hax hq
      have hkb : Kp W Wb := hKt (hKg hga) (by rw [← hWb]; exact hKl Wa _ _ hl)
      refine wpIn_mono (hbody _ pre x a' Wb ⟨_, hl2⟩ hib hab hlen) ?_
      rintro e a3 W3 hp
      cases e with
      | normal =>
        obtain ⟨e1, e2, hk3, hi3⟩ := hp
        have hl3 := e2.trans hl2
        have hr : (Instr.endRound (w.heap.size + 1) none).run P W3 = .ok (.bool true) (W3.putObj (w.heap.size + 1) (.loop (rec .ready))) := by
          have := run_endRound (P := P) none hl3
          rw [hrec] at this ⊢
          exact this
        have hq3 := put W3 _ (rec .ready) hl3
        exact ⟨_, _, hr, rfl, ⟨hI _ W3 _ hi3 hq3, World.putObj_heap_same (Array.getElem?_eq_some_iff.1 hl3).1, (World.putObj_heap_other (by omega)).trans (e1.trans hk2)⟩, hKt hkb (hKt hk3 (hKl W3 _ _ hl3))⟩
      | ret => exact hp.elim
      | exit id => exact hp.elim
      | goto t => exact hp.elim
      | panic ch => exact hp.elim
      | outgrown => exact hp.elim
    · rintro e W2 ⟨⟨v, rfl⟩, xs, hS, hi, hl, hk⟩
      have he := run_endLoop (P := P) hl (by rw [hrec]; simp)
      have hq3 := put W2 _ { rec .ready with state := .exhausted } hl
      refine ⟨none, _, by rw [hrec] at he; rw [hrec]; exact he, hdone xs _ hS (hI xs W2 _ hi hq3) ((World.putObj_heap_other (by omega)).trans hk)⟩
end Go.Proofs.YtapcgikamldchaaDoor
namespace Go.Proofs.YtapcgikamldchaaDoor
open Go.Shelf Go.RowKit Go.Lib Go.Sort Go.Maps

/-- What a loop's body leaves alone: cells and maps, but for two blocks. -/
def Spares (B R : Nat) (X Y : World) : Prop :=
  X.heap.size ≤ Y.heap.size ∧ ∀ (q : Nat) (o : Obj), X.heap[q]? = some o → q ≠ B → q ≠ R → (o.isCells = true ∨ ∃ es c, o = .map es c) → Y.heap[q]? = some o
theorem Spares.trans {B R : Nat} {X Y Z : World} (h : Spares B R X Y) (k : Spares B R Y Z) : Spares B R X Z :=
  ⟨Nat.le_trans h.1 k.1, fun q o ho h1 h2 h3 => k.2 q o (h.2 q o ho h1 h2 h3) h1 h2 h3⟩
theorem Spares.of_grown {B R : Nat} {X Y : World} (h : Grown X Y) : Spares B R X Y :=
  ⟨h.size, fun q _ ho _ _ _ => (h.block q (Array.getElem?_eq_some_iff.1 ho).1).trans ho⟩
theorem Spares.loop {B R l : Nat} (W : World) (r r' : Loop) (h : W.heap[l]? = some (.loop r)) : Spares B R W (W.putObj l (.loop r')) := by
  refine ⟨by simp, fun q _ ho _ _ h3 => ?_⟩
  by_cases e : q = l
  · subst e
    rw [h] at ho
    cases ho
    rcases h3 with h3 | ⟨es, c, h3⟩
    · cases h3
    · cases h3
  · exact (World.putObj_heap_other e).trans ho
theorem Spares.cells {B R q : Nat} {X Y : World} (h : Spares B R X Y) {c : Array Value} {t : TypeId} {fr : Nat × Nat} (hq : X.heap[q]? = some (.cells c t fr)) (h1 : q ≠ B) (h2 : q ≠ R) : Y.heap[q]? = some (.cells c t fr) :=
  h.2 q _ hq h1 h2 (.inl rfl)
theorem Spares.owns {H : Type} {B R b n : Nat} {X Y : World} {K : TypeId} {E : Value → Option (DataW H × List MemPlace)} {D : DataW H} (h : Spares B R X Y) (ho : X.ownsMap Tryd.prog K E b n D) (h1 : b ≠ B) (h2 : b ≠ R) : Y.ownsMap Tryd.prog K E b n D := by
  obtain ⟨es, clock, hb, rest⟩ := ho
  exact ⟨es, clock, h.2 b _ hb h1 h2 (.inr ⟨es, clock, rfl⟩), rest⟩
theorem Grown.cells {q : Nat} {X Y : World} (h : Grown X Y) {o : Obj} (hq : X.heap[q]? = some o) : Y.heap[q]? = some o := (h.block q (Array.getElem?_eq_some_iff.1 hq).1).trans hq
theorem Grown.owns {H : Type} {b n : Nat} {X Y : World} {K : TypeId} {E : Value → Option (DataW H × List MemPlace)} {D : DataW H} (h : Grown X Y) (ho : X.ownsMap Tryd.prog K E b n D) : Y.ownsMap Tryd.prog K E b n D := by
  obtain ⟨es, clock, hb, rest⟩ := ho
  exact ⟨es, clock, h.cells hb, rest⟩
theorem Grown.drew (X : World) : Grown X X.drew := (Below.refl _ X).drew

/-- What stands at an address. -/
def valOf {H : Type} (D : DataW H) (x : Ad) : Int := match D.atKey x.lit (.lit (.int .u64 0)) with | .lit (.int _ c) => c | _ => 0
/-- The map's words, by a list of their addresses. -/
def wordsOf {H : Type} (D : DataW H) (ts : List Ad) : List (Ad × Int) := ts.map fun x => (x, valOf D x)
def wordV (x : Ad × Int) : Value := .agg #[.int .u8 x.1.k, .int .i64 x.1.a, .int .i64 x.1.f, .int .u64 x.2]
/-- The addresses of a map's words, in order. -/
def Addrs {H : Type} (D : DataW H) (ts : List Ad) : Prop := ts.Pairwise (fun x y => x.less y = true) ∧ (∀ x : Ad, x ∈ ts ↔ has D x.lit = true) ∧ ts.length = Maps.size D

theorem zero32 : ∀ w : World, (zeroValue 34).run Tryd.prog w = .ok (.int .u64 0) w := Tryd.zeroValue34

set_option maxRecDepth 100000 in
set_option maxHeartbeats 4000000 in
theorem inOrder1 {H : Type} (n l p b nn B R : Nat) (D0 : DataW H) (hsz : Maps.size D0 ≤ 1000000) (hpos : 0 < Maps.size D0) (J : List (Ad × Int) → World → Prop) (hJ : ∀ s X Y, J s X → Grown X Y → J s Y)
    (hY : ∀ pre x W1, J pre W1 → pre.length < Maps.size D0 → YieldAt Fence.wide (n - 1) Tryd.prog l #[wordV x] W1 fun e W' => e = .returned (.bool true) ∧ J (pre ++ [x]) W' ∧ Spares B R W1 W')
    (cp : Array Value) (frp : Nat × Nat) (W : World) (hp : W.heap[p]? = some (.cells cp 90 frp)) (hp0 : cp[0]? = some (.map (some b))) (hpB : p ≠ B) (hpR : p ≠ R) (hown : W.ownsMap Tryd.prog 42 (plainElem Tryd.prog 34) b nn D0) (hbB : b ≠ B) (hbR : b ≠ R)
    (hn : 1 ≤ n) (hBW : B < W.heap.size) (hRW : R < W.heap.size) (h0 : J [] W) :
    CallsIn Fence.wide n Tryd.prog 34 #[.pointer (some ⟨p, 0, none⟩), .func (.yield l) #[] #[]] W fun e W' => (∃ v, e = .returned v) ∧ ∃ xs, (∃ ts, Addrs D0 ts ∧ xs = wordsOf D0 ts) ∧ J xs W' := by
  have hcell : W.cell? ⟨p, 0, none⟩ = some (.map (some b)) := by simp [World.cell?, hp, hp0]
  have hsf := sortedFunc_any W.heap.size b nn D0 hsz hpos (W.alloc (.cells #[.map (some b)] 88)) (by simp) (by simp) (hown.alloc _)
  refine callsIn_of_wp Tryd.func34 rfl trivial ?_ rfl
  simp only [Tryd.ntmps34, List.size_toArray, List.length_cons, List.length_nil, Nat.reduceAdd, Nat.reduceSub, Array.replicate_succ, Array.replicate_zero, List.push_toArray, List.append_toArray, List.nil_append, List.cons_append]
  gi_wp2_with (first
    | (refine ⟨trivial, ?_⟩; gi_at_call 43; refine (keys_in Fence.wide _ trivial rfl _ _).mono ?_; rintro e w' ⟨rfl, rfl⟩)
    | (refine ⟨trivial, ?_⟩; gi_at_call 42; refine (callsIn_wide.2 hsf).mono ?_; rintro e w1 ⟨g, cap, ts, rfl, hts0, hrow0, hB10⟩; have HT := Lib.hid hts0; have HRW := Lib.hid hrow0; have HB1 := Lib.hid hB10; clear hts0 hrow0 hB10))
  have hts := HT.out
  have hrow := HRW.out
  have hB1 := HB1.out
  clear HRW HB1
  have hG : Grown W w1 := Grown.trans (Grown.alloc W _) hB1
  rcases hrow.2 with ⟨hv, _⟩ | ⟨g', cap', cur, hv, hbase, hb, k1, k2, k3, k4⟩
  · cases hv
  cases hv
  have hgW : W.heap.size < g := by simp at hbase; omega
  have hrowc : ∀ i, i < ts.length → cur[i * 3]? = some (.int .u8 (ts.getD i default).k) ∧ cur[i * 3 + 1]? = some (.int .i64 (ts.getD i default).a) ∧ cur[i * 3 + 2]? = some (.int .i64 (ts.getD i default).f) := fun i hi => by
    have key : ∀ j, j < 3 → cur[i * 3 + j]? = (ts.getD i default).cells[j]? := fun j hj => by
      rw [← flatA_at ts i j hi hj, ← k4, List.getElem?_take_of_lt (by omega), Array.getElem?_toList]
    exact ⟨key 0 (by decide), key 1 (by decide), key 2 (by decide)⟩
  have HR := Lib.hid hrowc
  have HL := Lib.hid hts.2.2
  have htl : ts.length ≤ 1000000 := by rw [hts.2.2]; exact hsz
  have HJ := Lib.hid hJ
  have HY := Lib.hid hY
  have hp1 := hG.cells hp
  have ho1 := hG.owns hown
  have hj1 := hJ _ _ _ h0 hG
  have HP := Lib.hid hp0
  clear hrowc hts hJ hY hcell hsf hrow hB1 k1 k2 k3 k4 hp0
  gi_loopw [13] (fun i wr => ∃ k : Nat, k ≤ ts.length ∧ i = .int .i64 (k : Int) ∧ J (wordsOf D0 (ts.take k)) wr ∧ wr.heap[g]? = some (.cells cur 42 (0, 0)) ∧ wr.heap[p]? = some (.cells cp 90 frp) ∧ wr.ownsMap Tryd.prog 42 (plainElem Tryd.prog 34) b nn D0)
    (fun i _ => ts.length - (intOf i).toNat)
  case atStart => exact ⟨0, Nat.zero_le _, rfl, hj1, hb, hp1, ho1⟩
  case round =>
    obtain ⟨k, hk, rfl, hjr, hgr, hpr, hor⟩ := hrel
    by_cases hlt : k < ts.length
    · obtain ⟨r0, r1, r2⟩ := HR.out k hlt
      have c0 : wr.cell? ⟨g, k * 3, none⟩ = some (.int .u8 (ts.getD k default).k) := by simp [World.cell?, hgr, r0]
      have c1 : wr.cell? ⟨g, k * 3 + 1, none⟩ = some (.int .i64 (ts.getD k default).a) := by simp [World.cell?, hgr, r1]
      have c2 : wr.cell? ⟨g, k * 3 + 2, none⟩ = some (.int .i64 (ts.getD k default).f) := by simp [World.cell?, hgr, r2]
      have hlt' : (k : Int) < (ts.length : Int) := by omega
      have hge : (0 : Int) ≤ (k : Int) := by omega
      obtain ⟨x, hx⟩ : ∃ x, ts.getD k default = x := ⟨_, rfl⟩
      rw [hx] at c0 c1 c2
      have HX := Lib.hid hx
      clear hx r0 r1 r2
      gi_wp2
      have hG2 : Grown wr (wr.alloc (.cells #[.int .u8 x.k, .int .i64 x.a, .int .i64 x.f] 42)).drew := Grown.trans (Grown.alloc _ _) (Grown.drew _)
      have d0 : (wr.alloc (.cells #[.int .u8 x.k, .int .i64 x.a, .int .i64 x.f] 42)).drew.cell? ⟨wr.heap.size, 0, none⟩ = some (.int .u8 x.k) := by simp [go_sem]
      have d1 : (wr.alloc (.cells #[.int .u8 x.k, .int .i64 x.a, .int .i64 x.f] 42)).drew.cell? ⟨wr.heap.size, 1, none⟩ = some (.int .i64 x.a) := by simp [go_sem]
      have d2 : (wr.alloc (.cells #[.int .u8 x.k, .int .i64 x.a, .int .i64 x.f] 42)).drew.cell? ⟨wr.heap.size, 2, none⟩ = some (.int .i64 x.f) := by simp [go_sem]
      refine wide_region_tail 9 (by kernel_rfl) (by kernel_rfl) ?_
      revert hG2 d0 d1 d2
      generalize (wr.alloc (.cells #[.int .u8 x.k, .int .i64 x.a, .int .i64 x.f] 42)).drew = wd
      intro hG2 d0 d1 d2
      have hgd := hG2.cells hgr
      have hpd := hG2.cells hpr
      have hod := hG2.owns hor
      have hjd := HJ.out _ _ _ hjr hG2
      have pc : wd.cell? ⟨p, 0, none⟩ = some (.map (some b)) := by simp [World.cell?, hpd, HP.out]
      obtain ⟨c, hrun, hat, hwc⟩ := hod.lookup_int addr_keyed Tryd.underlying88 Tryd.underlying34 (zero32 wd) x.key
      obtain ⟨fn, tmps, assign, body, hy, hR⟩ := HY.out (wordsOf D0 (ts.take k)) (x, c) wd hjd (by simp [wordsOf]; rw [← HL.out]; omega)
      have HAT := Lib.hid hat
      have HGD := Lib.hid hgd
      have HPD := Lib.hid hpd
      have HOD := Lib.hid hod
      clear hat hgd hpd hod hgr hpr hor c0 c1 c2 hjr hjd
      simp only [Ad.v, addrV, wordV] at hrun hy
      simp only [List.take_succ_cons, List.take_zero, List.drop_succ_cons, List.drop_zero]
      still_step
      still_step
      still_step
      still_step
      still_step
      still_step
      still_step
      still_step
      still_step
      refine wpStill_nil ?_
      gi_wp2
      refine hR.mono ?_
      rintro e W3 ⟨rfl, hJ3, hk3⟩
      have HJ3 := Lib.hid hJ3
      have HK3 := Lib.hid hk3
      clear hJ3 hk3
      gi_wp2
      go_roundw
      case rel =>
        refine ⟨k + 1, by omega, by go_num, ?_, HK3.out.cells HGD.out (by omega) (by omega), HK3.out.cells HPD.out hpB hpR, HK3.out.owns HOD.out hbB hbR⟩
        have e1 : ts.take (k + 1) = ts.take k ++ [x] := by
          rw [List.take_succ_eq_append_getElem hlt, ← HX.out]
          simp [List.getD, hlt]
        have e2 : valOf D0 x = c := by unfold valOf; rw [HAT.out]
        rw [e1]
        have e3 : wordsOf D0 (ts.take k ++ [x]) = wordsOf D0 (ts.take k) ++ [(x, c)] := by simp [wordsOf, e2]
        rw [e3]
        exact HJ3.out
      case measure => simp [intOf]; omega
    · have he : k = ts.length := by omega
      have hge : (ts.length : Int) ≤ (k : Int) := by omega
      have HJR := Lib.hid hjr
      have HE := Lib.hid he
      clear hjr he
      gi_wp2
      go_end0
      refine ⟨⟨_, rfl⟩, wordsOf D0 ts, ⟨ts, HT.out, rfl⟩, ?_⟩
      have h := HJR.out
      rw [HE.out, List.take_length] at h
      exact h

/-- The iterator's contract. -/
theorem inOrder_yields {H : Type} (n p b nn B R : Nat) (D0 : DataW H) (hsz : Maps.size D0 ≤ 1000000) (hpos : 0 < Maps.size D0) (cp : Array Value) (frp : Nat × Nat) (w : World) (hp : w.heap[p]? = some (.cells cp 90 frp)) (hp0 : cp[0]? = some (.map (some b))) (hpB : p ≠ B) (hpR : p ≠ R)
    (hown : w.ownsMap Tryd.prog 42 (plainElem Tryd.prog 34) b nn D0) (hbB : b ≠ B) (hbR : b ≠ R) (hn : 1 ≤ n) (hBW : B < w.heap.size) (hRW : R < w.heap.size) :
    Yields1 n Tryd.prog 34 (.pointer (some ⟨p, 0, none⟩)) (fun x => #[wordV x]) (Spares B R) (fun xs => ∃ ts, Addrs D0 ts ∧ xs = wordsOf D0 ts) (Maps.size D0) w := fun l J W hW hJ hY h0 =>
  inOrder1 n l p b nn B R D0 hsz hpos J hJ hY cp frp W (hW.cells hp) hp0 hpB hpR (hW.owns hown) hbB hbR hn (Nat.lt_of_lt_of_le hBW hW.size) (Nat.lt_of_lt_of_le hRW hW.size) h0
end Go.Proofs.YtapcgikamldchaaDoor
namespace Go.Proofs.YtapcgikamldchaaDoor
open Go.Shelf Go.RowKit Go.Lib Go.Sort Go.Maps

def wordCells (x : Ad × Int) : List Value := [.int .u8 x.1.k, .int .i64 x.1.a, .int .i64 x.1.f, .int .u64 x.2]
def flatW (l : List (Ad × Int)) : List Value := l.flatMap wordCells
theorem flatW_snoc (l : List (Ad × Int)) (x : Ad × Int) : flatW (l ++ [x]) = flatW l ++ wordCells x := by simp [flatW]
theorem word_one (x : Ad × Int) : ∀ u ∈ wordCells x, u.oneCell' = true := by
  intro u hu
  simp [wordCells] at hu
  rcases hu with rfl | rfl | rfl | rfl <;> rfl
theorem Tryd_info43 : (Tryd.prog.info? 67).map (fun i => (i.zero, i.size, i.bytes)) = some (some (.agg #[.int .u8 0, .int .i64 0, .int .i64 0, .int .u64 0]), 4, 32) := by kernel_rfl

/-- An append with room, where a round may be called: the same array, the same room. -/
theorem wpListIn_append_fits {F : Fence} {n : Nat} {P : Program} (w : World) {ops : Array Oper} {rest : List Oper} {o : Oper} {a : Act} {Q : Exit → Act → World → Prop}
    (hg : o.guard = none) (s x : Operand) (t : TypeId) (hop : o.op = Op.call { callee := Callee.builtin Builtin.append, args := #[s, x], argTypes := #[t, t] })
    (base : Nat) (e : TypeId) (i : TypeInfo) (size : Nat) (h1 : P.underlying t = some (.slice e)) (h2 : P.info? e = some i) (h4 : i.size = size)
    (g k cap : Nat) (xs : List Value) (hs : a.eval s = .slice (some ⟨g, 0, none⟩) k cap) (hown : w.ownsRow base e size (.slice (some ⟨g, 0, none⟩) k cap) k xs) (ad : Addr) (m c : Nat) (news : List Value) (hx : a.eval x = .slice (some ad) m c) (hn : news.length = m * size)
    (hc : ∀ j u, news[j]? = some u → w.cell? (ad.add j) = some u) (h1c : ∀ u ∈ news, u.oneCell' = true) (hroom : k + m ≤ cap)
    (hK : ∀ w', w'.ownsRow base e size (.slice (some ⟨g, 0, none⟩) (k + m) cap) (k + m) (xs ++ news) → w.grownBy w' (some g) → wpListIn F n P ops Q rest (a.put o.dst (.slice (some ⟨g, 0, none⟩) (k + m) cap)) w') :
    wpListIn F n P ops Q (o :: rest) a w := by
  refine wpListIn_plain hg fun K hK' => ?_
  obtain ⟨w', hrun, r1, r2⟩ := run_append_own_spare (P := P) w base t o.type e i size h1 h2 h4 g k cap xs hown ad m c news hn hc h1c hroom
  unfold Oper.wpIn
  refine ⟨?_, ?_⟩
  · simp [Oper.about, hop, resolve, Target.leads, Sem.run_pure]
  · rw [Oper.semAt_plain F _ _ (by rw [hop]; intro c hc'; cases hc')]
    simp [execOp, hop, resolve, invoke, builtin, hs, hx, hrun, Result.andThen]
    exact hK' _ _ (hK w' r1 r2)

/-- What Words hands back. -/
def WordsPost {H : Type} (D0 : DataW H) (w : World) (e : Ending) (W' : World) : Prop :=
  ∃ (g : Nat) (ts : List Ad), e = .returned (.slice (some ⟨g, 0, none⟩) ts.length ts.length) ∧ Addrs D0 ts ∧
    W'.ownsRow w.heap.size 67 4 (.slice (some ⟨g, 0, none⟩) ts.length ts.length) ts.length (flatW (wordsOf D0 ts)) ∧ Below w.heap.size w W'

/-- A block of a word. -/
def Box4 (W : World) (B : Nat) (x : Ad × Int) : Prop := W.heap[B]? = some (.cells #[.int .u8 x.1.k, .int .i64 x.1.a, .int .i64 x.1.f, .int .u64 x.2] 67 (0, 0))
theorem Box4.cell {W : World} {B : Nat} {x : Ad × Int} (h : Box4 W B x) : W.cell? ⟨B, 0, none⟩ = some (.int .u8 x.1.k) ∧ W.cell? ⟨B, 1, none⟩ = some (.int .i64 x.1.a) ∧ W.cell? ⟨B, 2, none⟩ = some (.int .i64 x.1.f) ∧ W.cell? ⟨B, 3, none⟩ = some (.int .u64 x.2) := by
  refine ⟨?_, ?_, ?_, ?_⟩ <;> simp [World.cell?, show W.heap[B]? = _ from h]
/-- What stands between two rounds. -/
structure Told (w : World) (B c : Nat) (pre : List (Ad × Int)) (W : World) : Prop where
  box : Boxed W B 63 (.slice (some ⟨w.heap.size, 0, none⟩) pre.length c)
  row : W.ownsRow w.heap.size 67 4 (.slice (some ⟨w.heap.size, 0, none⟩) pre.length c) pre.length (flatW pre)
  low : Below w.heap.size w W
theorem Told.row_lt {w : World} {B c : Nat} {pre : List (Ad × Int)} {W : World} (h : Told w B c pre W) : ∃ cur, W.heap[w.heap.size]? = some (.cells cur 67 (0, 0)) := by
  rcases h.row.2 with ⟨hv, _⟩ | ⟨g', cap', cur, hv, _, hb, _⟩
  · cases hv
  · cases hv
    exact ⟨cur, hb⟩
theorem Told.turned {w : World} {B c B' : Nat} {pre : List (Ad × Int)} {X Y : World} (h : Told w B c pre X) (ht : TurnedV B' X Y) (hB : B < B') (hw : w.heap.size < B') : Told w B c pre Y := by
  obtain ⟨cur, hb⟩ := h.row_lt
  have hlt := (Array.getElem?_eq_some_iff.1 hb).1
  refine ⟨(ht.block B h.box.lt (by omega) (by omega)).trans h.box, ⟨h.row.1, ?_⟩, ⟨ht.os.trans h.low.os, ht.tape.trans h.low.tape, ht.output.trans h.low.output, Nat.le_trans h.low.size ht.size, fun k hk => (ht.block k (by omega) (by omega) (by omega)).trans (h.low.block k hk)⟩⟩
  rcases h.row.2 with ⟨hv, _⟩ | ⟨g', cap', cur', hv, hbase, hb', rest⟩
  · cases hv
  · cases hv
    exact .inr ⟨_, _, cur', rfl, hbase, (ht.block _ hlt (by omega) (by omega)).trans hb', rest⟩
theorem Told.grown {w : World} {B c : Nat} {pre : List (Ad × Int)} {X Y : World} (h : Told w B c pre X) (hg : Grown X Y) : Told w B c pre Y := by
  obtain ⟨cur, hb⟩ := h.row_lt
  have hlt := (Array.getElem?_eq_some_iff.1 hb).1
  refine ⟨(hg.block B h.box.lt).trans h.box, ⟨h.row.1, ?_⟩, h.low.trans (Below.mono hg h.low.size)⟩
  rcases h.row.2 with ⟨hv, _⟩ | ⟨g', cap', cur', hv, hbase, hb', rest⟩
  · cases hv
  · cases hv
    exact .inr ⟨_, _, cur', rfl, hbase, (hg.block _ hlt).trans hb', rest⟩

set_option maxRecDepth 100000 in
set_option maxHeartbeats 4000000 in
theorem words_in {H : Type} (n p b nn : Nat) (D0 : DataW H) (hsz : Maps.size D0 ≤ 1000000) (hpos : 0 < Maps.size D0) (cp : Array Value) (frp : Nat × Nat) (w : World) (hp : w.heap[p]? = some (.cells cp 90 frp)) (hp0 : cp[0]? = some (.map (some b)))
    (hown : w.ownsMap Tryd.prog 42 (plainElem Tryd.prog 34) b nn D0) (hn : 3 ≤ n) :
    CallsIn Fence.wide n Tryd.prog 23 #[.pointer (some ⟨p, 0, none⟩)] w (WordsPost D0 w) := by
  have h1 : 1 ≤ n := by omega
  obtain ⟨i0, hi, hz0, hz1, hz2⟩ := info_parts Tryd_info43
  have hcell : w.cell? ⟨p, 0, none⟩ = some (.map (some b)) := by simp [World.cell?, hp, hp0]
  have hlen := hown.len Tryd.underlying88 3
  have hz : (((Maps.size D0 : Nat) : Int) == 0) = false := by simp; omega
  obtain ⟨wm, hmk, hrow0, hgr0⟩ := run_make_own (P := Tryd.prog) w w.heap.size 63 67 i0 _ 4 Tryd.underlying63 hi hz0 hz1 .i64 .i64 (Maps.size D0) (by rw [hz2]; omega) (by unfold maxLen; omega) (Nat.le_refl _)
  have HO := Lib.hid hown
  have HP := Lib.hid hp
  have HR0 := Lib.hid hrow0
  have HG0 := Lib.hid (Grown.of_none hgr0)
  clear hrow0 hgr0 hown hp
  refine callsIn_of_wp_marks Tryd.func23 rfl trivial ?_ rfl
  simp only [Tryd.ntmps23, List.size_toArray, List.length_cons, List.length_nil, Nat.reduceAdd, Nat.reduceSub, Array.replicate_succ, Array.replicate_zero, List.push_toArray, List.append_toArray, List.nil_append, List.cons_append]
  gi_wp2
  obtain ⟨cur0, hcur0⟩ : ∃ cur, wm.heap[w.heap.size]? = some (.cells cur 67 (0, 0)) := by
    rcases HR0.out.2 with ⟨hv, _⟩ | ⟨g', cap', cur, hv, _, hb, _⟩
    · cases hv
    · cases hv
      exact ⟨cur, hb⟩
  have hRB : w.heap.size < wm.heap.size := (Array.getElem?_eq_some_iff.1 hcur0).1
  have bO := Boxed.new wm 63 (.slice (some ⟨w.heap.size, 0, none⟩) 0 (Maps.size D0))
  have hG0 : Grown w (wm.alloc (.cells #[.slice (some ⟨w.heap.size, 0, none⟩) 0 (Maps.size D0)] 63)) := Grown.trans HG0.out (Grown.alloc _ _)
  have hT0 : Told w wm.heap.size (Maps.size D0) [] (wm.alloc (.cells #[.slice (some ⟨w.heap.size, 0, none⟩) 0 (Maps.size D0)] 63)) := ⟨bO, HR0.out.alloc _, hG0⟩
  have hs0 : (wm.alloc (.cells #[.slice (some ⟨w.heap.size, 0, none⟩) 0 (Maps.size D0)] 63)).heap.size = wm.heap.size + 1 := by simp
  have hpl := (Array.getElem?_eq_some_iff.1 HP.out).1
  have hbl := HO.out.lt
  have hyi := inOrder_yields (n - 1) p b nn wm.heap.size w.heap.size D0 hsz hpos cp frp _ (hG0.cells HP.out) hp0 (by omega) (by omega) (hG0.owns HO.out) (by omega) (by omega) (by omega) (by omega) (by omega)
  clear bO hcell hlen hmk hcur0 hG0
  revert hT0 hs0 hyi
  generalize wm.alloc (.cells #[.slice (some ⟨w.heap.size, 0, none⟩) 0 (Maps.size D0)] 63) = W0
  intro hT0 hs0 hyi
  refine range_bound (gf := 34) (rv := .pointer (some ⟨p, 0, none⟩)) rfl (enters_of Tryd.func34 (by kernel_rfl) rfl) (fun _ => rfl) hyi Spares.trans Spares.of_grown (fun W r r' h => Spares.loop W r r' h)
    (Told w wm.heap.size (Maps.size D0)) (fun s X Y h ht => h.turned ht (by omega) (by omega)) hT0
    (fun x a' W => ∃ Bx, Bx ≠ W0.heap.size ∧ Bx ≠ W0.heap.size + 1 ∧ Box4 W Bx x ∧ a' = { tmps := #[.pointer (some ⟨p, 0, none⟩), undef, .slice none 0 0, .pointer (some ⟨wm.heap.size, 0, none⟩), .pointer (some ⟨Bx, 0, none⟩),
          .pointer (some ⟨p, 0, none⟩), .bool false, .bool false, .pointer (some ⟨p, 0, none⟩), .pointer (some ⟨p, 0, none⟩), .pointer (some ⟨p, 0, none⟩), .map (some b), .int .i64 (Maps.size D0 : Int),
          .bool false, .bool false, .pointer (some ⟨p, 0, none⟩), .pointer (some ⟨p, 0, none⟩), .pointer (some ⟨p, 0, none⟩), .map (some b), .int .i64 (Maps.size D0 : Int), .slice (some ⟨w.heap.size, 0, none⟩) 0 (Maps.size D0),
          .pointer (some ⟨p, 0, none⟩), .func (.func 34) #[.pointer (some ⟨p, 0, none⟩)] #[], wordV x, undef, undef, undef, undef, undef], defers := [] })
    (fun x a' s X Y h ht => by obtain ⟨Bx, h1, h2, h3, h4⟩ := h; exact ⟨Bx, h1, h2, (ht.block Bx (Array.getElem?_eq_some_iff.1 h3).1 h1 h2).trans h3, h4⟩)
    ?assign ?body ?done
  case assign =>
    intro l pre x W K hW hI hK
    simp only [wordV] at hK ⊢
    gi_wp2_with (rw [Oper.semAt_eq _ _ _ (fun c h => by cases h)]; go_simp; try go_bits)
    exact hK _ _ (Grown.alloc _ _) (hI.grown (Grown.alloc _ _)) ⟨W.heap.size, by omega, by omega, World.alloc_heap_new W _, rfl⟩
  case body =>
    rintro l pre x a' W ⟨r, hr⟩ hI ⟨Bx, hx1, hx2, hbx, rfl⟩ hlt
    have hc := hI.box.cell
    obtain ⟨x0, x1, x2, x3⟩ := hbx.cell
    have HI := Lib.hid hI
    have hsW := hI.low.size
    simp only [wordV]
    clear hI hT0
    gi_wp2_with (first | (gi_at_builtin; refine wpListIn_append_fits _ rfl _ _ 63 rfl w.heap.size 67 i0 4 Tryd.underlying63 hi hz1 w.heap.size pre.length (Maps.size D0) (flatW pre) rfl (HI.out.row.alloc _) ⟨W.heap.size, 0, none⟩ 1 1 (wordCells x) rfl rfl (cells_new _ _ _) (word_one x) (by omega) ?_; intro w1 hown' hgrow; have HW := Lib.hid hown'; have HGR := Lib.hid hgrow; obtain ⟨hv1, hv2, hr2, hk2, hb2⟩ := HI.out.box.appended (by decide) HI.out.row hsW (Nat.le_of_lt hRB) hown' hgrow; have HV2 := Lib.hid hv2; have HR2 := Lib.hid hr2; have HB2 := Lib.hid hb2; have hc1 := hv1.cell; have hf1 := hv1.frozen; clear hown' hgrow hv1 hv2 hr2 hk2 hb2) | (rw [Oper.semAt_eq _ _ _ (fun c h => by cases h)]; go_simp; try go_bits))
    have hrl := (Array.getElem?_eq_some_iff.1 hr).1
    have same : ∀ q, q < W.heap.size → q ≠ wm.heap.size → q ≠ w.heap.size → (w1.setCell ⟨wm.heap.size, 0, none⟩ (.slice (some ⟨w.heap.size, 0, none⟩) (pre.length + 1) (Maps.size D0))).heap[q]? = W.heap[q]? := fun q hq h1 h2 =>
      (Below.heap_setCell _ _ _ q h1).trans ((HGR.out.block q (by simp; omega) (by simp; omega)).trans (Below.heap_alloc W _ q hq))
    refine ⟨same _ (by omega) (by omega) (by omega), same _ (by omega) (by omega) (by omega), ⟨HB2.out.size, fun q o ho h1 h2 _ => (same q (Array.getElem?_eq_some_iff.1 ho).1 h1 h2).trans ho⟩, ⟨?_, ?_, HI.out.low.trans HB2.out⟩⟩
    · simpa using HV2.out
    · rw [flatW_snoc]; simpa using HR2.out
  case done =>
    rintro xs W ⟨ts, hts, rfl⟩ hI hK
    have hc := hI.box.cell
    have HI := Lib.hid hI
    have HT := Lib.hid hts
    have HL := Lib.hid hts.2.2
    have HK := Lib.hid hK
    clear hI hts hT0
    gi_wp2
    refine ⟨by simp, .inl ⟨_, _, rfl, run_takeDeferred HK.out, ?_⟩⟩
    have el : (wordsOf D0 ts).length = ts.length := by simp [wordsOf]
    have hr := HI.out.row
    rw [el, ← HL.out] at hr
    refine ⟨_, results_tmp rfl _ _ _, w.heap.size, ts, ?_, HT.out, ownsRow_putObj hr _ HK.out rfl, HI.out.low.trans (belowK_b (w := w) (Nat.le_refl _) W W0.heap.size _ _ (by omega) HK.out rfl rfl)⟩
    show Ending.returned (.slice (some ⟨w.heap.size, 0, none⟩) (wordsOf D0 ts).length (Maps.size D0)) = _
    rw [el, HL.out]

theorem words_any {H : Type} (p b nn : Nat) (D0 : DataW H) (hsz : Maps.size D0 ≤ 1000000) (hpos : 0 < Maps.size D0) (cp : Array Value) (frp : Nat × Nat) (w : World) (hp : w.heap[p]? = some (.cells cp 90 frp)) (hp0 : cp[0]? = some (.map (some b)))
    (hown : w.ownsMap Tryd.prog 42 (plainElem Tryd.prog 34) b nn D0) : Calls Tryd.prog 23 #[.pointer (some ⟨p, 0, none⟩)] w (WordsPost D0 w) :=
  callsIn_wide.1 (words_in 3 p b nn D0 hsz hpos cp frp w hp hp0 hown (Nat.le_refl _))
/-- .. of a memory that is not there, that no call made, or that has nothing. -/
theorem words_nil (w : World) : Calls Tryd.prog 23 #[.pointer none] w fun e w' => e = .returned (.slice none 0 0) ∧ w = w' := by
  go_enter Tryd.func23, Tryd.ntmps23
  go_wp2
  go_ret
  exact ⟨rfl, rfl⟩
theorem words_void (p : Nat) (w : World) (hp : w.cell? ⟨p, 0, none⟩ = some (.map none)) : Calls Tryd.prog 23 #[.pointer (some ⟨p, 0, none⟩)] w fun e w' => e = .returned (.slice none 0 0) ∧ w = w' := by
  have hl := Maps.len_nil (w := w) Tryd.underlying88 3
  go_enter Tryd.func23, Tryd.ntmps23
  go_wp2
  go_ret
  exact ⟨rfl, rfl⟩
theorem words_none {H : Type} (p b nn : Nat) (D0 : DataW H) (hz : Maps.size D0 = 0) (w : World) (hp : w.cell? ⟨p, 0, none⟩ = some (.map (some b))) (hown : w.ownsMap Tryd.prog 42 (plainElem Tryd.prog 34) b nn D0) :
    Calls Tryd.prog 23 #[.pointer (some ⟨p, 0, none⟩)] w fun e w' => e = .returned (.slice none 0 0) ∧ w = w' := by
  have hl := hown.len Tryd.underlying88 3
  rw [hz] at hl
  clear hown hz
  go_enter Tryd.func23, Tryd.ntmps23
  go_wp2
  go_ret
  exact ⟨rfl, rfl⟩
end Go.Proofs.YtapcgikamldchaaDoor
