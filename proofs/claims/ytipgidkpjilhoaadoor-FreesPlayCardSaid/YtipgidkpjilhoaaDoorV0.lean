/-
  A range over a method's value (an iterator with its receiver bound), whose body leaves no round early: what a caller owes; no condition.
-/
import Derived.Test.YtipgidkpjilhoaaDoorT1
namespace Go.Proofs.YtipgidkpjilhoaaDoor
open Go.RowKit

/-- Nothing has turned but two blocks of book-keeping. -/
structure Turned (B : Nat) (X Y : World) : Prop where
  os : Y.os = X.os
  tape : Y.tape = X.tape
  output : Y.output = X.output
  size : X.heap.size ≤ Y.heap.size
  block : ∀ q, q < X.heap.size → q ≠ B → q ≠ B + 1 → Y.heap[q]? = X.heap[q]?
/-- It abides new blocks, and whatever becomes of the loop's two blocks of book-keeping. -/
def Keeps {β : Type} (B : Nat) (I : β → World → Prop) : Prop := ∀ s X Y, I s X → Turned B X Y → I s Y
/-- New blocks alone. -/
def Grown (X Y : World) : Prop := Below X.heap.size X Y
theorem Grown.size {X Y : World} (h : Grown X Y) : X.heap.size ≤ Y.heap.size := Below.size h
theorem Grown.block {X Y : World} (h : Grown X Y) : ∀ q, q < X.heap.size → Y.heap[q]? = X.heap[q]? := fun q hq => Below.block h q hq
theorem Grown.turned {X Y : World} (h : Grown X Y) (B : Nat) : Turned B X Y := ⟨Below.os h, Below.tape h, Below.output h, h.size, fun q hq _ _ => h.block q hq⟩
theorem Grown.of_none {X Y : World} (h : X.grownBy Y none) : Grown X Y := (Below.refl _ X).grown h (Nat.le_refl _) (fun k e => by cases e)
theorem Grown.alloc (X : World) (o : Obj) : Grown X (X.alloc o) := Grown.of_none (World.grownBy_alloc X o none)
theorem Grown.trans {X Y Z : World} (h : Grown X Y) (k : Grown Y Z) : Grown X Z := Below.trans h (Below.mono k h.size)

/-- How a round ends. -/
def roundEnds {α : Type} (B : Nat) (Kp : World → World → Prop) (I : List α → World → Prop) (xs : List α) (W : World) : Exit → Act → World → Prop
  | .normal, _, W' => W'.heap[B]? = W.heap[B]? ∧ W'.heap[B + 1]? = W.heap[B + 1]? ∧ Kp W W' ∧ I xs W'
  | .ret, _, _ => False
  | .exit _, _, _ => False
  | .goto _, _, _ => False
  | .panic _, _, _ => False
  | .outgrown, _, _ => False

/-- An iterator's contract, its receiver bound ahead. -/
def Yields1 {α : Type} (n : Nat) (P : Program) (gf : Nat) (rv : Value) (encs : α → Array Value) (Kp : World → World → Prop) (S : List α → Prop) (N : Nat) (w : World) : Prop :=
  ∀ (l : Nat) (J : List α → World → Prop) (W : World), Grown w W → (∀ s X Y, J s X → Grown X Y → J s Y) →
    (∀ pre x W1, J pre W1 → pre.length < N → YieldAt Fence.wide (n - 1) P l (encs x) W1 fun e W' => e = .returned (.bool true) ∧ J (pre ++ [x]) W' ∧ Kp W1 W') → J [] W →
    CallsIn Fence.wide n P gf #[rv, .func (.yield l) #[] #[]] W fun e W' => (∃ v, e = .returned v) ∧ ∃ xs, S xs ∧ J xs W'

theorem range_bound {α : Type} {n : Nat} {P : Program} {w : World} {g : Operand} {ps : Array Tmp} {assign body : Code} {Q : Exit → Act → World → Prop} {a : Act}
    {gf : Nat} {rv : Value} (hg : a.eval g = .func (.func gf) #[rv] #[]) (eg : ∀ args w, (callFunc gf args).run P w = .ok (.enter gf args) w)
    {encs : α → Array Value} (hps : ∀ x, (encs x).size = ps.size) {Kp : World → World → Prop} {S : List α → Prop} {N : Nat} (hseq : Yields1 (n - 1) P gf rv encs Kp S N w)
    (hKt : ∀ {X Y Z : World}, Kp X Y → Kp Y Z → Kp X Z) (hKg : ∀ {X Y : World}, Grown X Y → Kp X Y) (hKl : ∀ (W : World) (r r' : Loop), W.heap[w.heap.size + 1]? = some (.loop r) → Kp W (W.putObj (w.heap.size + 1) (.loop r')))
    (I : List α → World → Prop) (hI : Keeps w.heap.size I) (h0 : I [] w) (Ax : α → Act → World → Prop) (hAx : ∀ x a', Keeps w.heap.size (fun (_ : Unit) W => Ax x a' W))
    (hassign : ∀ (l : Nat) (pre : List α) (x : α) (W : World) (K : Act → World → Prop), w.heap.size + 1 < W.heap.size → I pre W → (∀ a' W', Grown W W' → I pre W' → Ax x a' W' → K a' W') →
      assign.wpIn (Fence.wide.inRound l) (n - 1 - 1) P (Exit.then K (fun _ _ _ => False)) { tmps := (ps.zip (encs x)).foldl (fun t (p, v) => t.setIfInBounds p v) a.tmps, defers := [] } W)
    (hbody : ∀ (l : Nat) (pre : List α) (x : α) (a' : Act) (W : World), (∃ r, W.heap[w.heap.size + 1]? = some (.loop r)) → I pre W → Ax x a' W → pre.length < N → body.wpIn (Fence.wide.inRound l) (n - 1 - 1) P (roundEnds w.heap.size Kp I (pre ++ [x]) W) a' W)
    (hdone : ∀ (xs : List α) (W : World), S xs → I xs W → W.heap[w.heap.size]? = some (.deferred (some [])) → Q .normal { a with defers := { target := .collected w.heap.size, args := #[] } :: a.defers } W) :
    (Code.rangeFunc g ps assign body).wpIn Fence.wide n P Q a w := by
  refine wpIn_rangeFunc ?_
  intro fn hfn
  show ∃ l mark w₁ d w₁' f args w₂, (Instr.enterLoop fn a.tmps ps assign body none).run P w = .ok (l, mark) w₁ ∧ _
  obtain ⟨rec, hrec⟩ : ∃ rec : LoopState → Loop, rec = fun st => { state := st, pending := none, fn, tmps := a.tmps, params := ps, assign, body, defers := w.heap.size } := ⟨_, rfl⟩
  obtain ⟨W1, hW1⟩ : ∃ W1, (w.alloc (.deferred (some []))).alloc (.loop (rec .ready)) = W1 := ⟨_, rfl⟩
  have hL1 : W1.heap[w.heap.size + 1]? = some (.loop (rec .ready)) := by
    rw [← hW1]; have := World.alloc_heap_new (w.alloc (.deferred (some []))) (.loop (rec .ready)); rwa [World.size_alloc] at this
  have hK1 : W1.heap[w.heap.size]? = some (.deferred (some [])) := by
    rw [← hW1]; exact (Below.heap_alloc _ _ _ (by simp)).trans (World.alloc_heap_new w _)
  have hG1 : Grown w W1 := by rw [← hW1]; exact (Grown.alloc _ _).trans (Grown.alloc _ _)
  have hI1 : I [] W1 := hI [] w W1 h0 (hG1.turned _)
  have put : ∀ (W : World) (r r' : Loop), W.heap[w.heap.size + 1]? = some (.loop r) → Turned w.heap.size W (W.putObj (w.heap.size + 1) (.loop r')) :=
    fun W r r' _ => ⟨rfl, rfl, rfl, by simp, fun q _ _ h2 => World.putObj_heap_other h2⟩
  refine ⟨w.heap.size + 1, [{ target := .collected w.heap.size, args := #[] }], W1, { target := .fn (.func gf) #[], args := #[rv, .func (.yield (w.heap.size + 1)) #[] #[]] }, W1, gf,
    #[rv, .func (.yield (w.heap.size + 1)) #[] #[]], W1, ?_, ?_, ?_, ?_, fun e => (by cases e), ?_⟩
  · rw [← hW1, hrec]; exact run_enterLoop_outer _ _ _ _ _
  · simp only [resolve, hg]
    simp [go_sem]
  · intro f' _; trivial
  · simp [invoke, go_sem, eg]
  · refine (hseq (w.heap.size + 1) (fun pre W => I pre W ∧ W.heap[w.heap.size + 1]? = some (.loop (rec .ready)) ∧ W.heap[w.heap.size]? = some (.deferred (some []))) W1 hG1
      (fun s X Y hs hg' => ⟨hI s X Y hs.1 (hg'.turned _), (hg'.block _ (Array.getElem?_eq_some_iff.1 hs.2.1).1).trans hs.2.1, (hg'.block _ (Array.getElem?_eq_some_iff.1 hs.2.2).1).trans hs.2.2⟩)
      ?_ ⟨hI1, hL1, hK1⟩).mono ?_
    · rintro pre x W ⟨hi, hl, hk⟩ hlen
      have hy := run_yield (P := P) (args := encs x) hl (by rw [hrec]; exact hps x)
      rw [hrec] at hy
      refine ⟨fn, _, assign, body, hy, roundIn_of_wpIn hfn (hassign _ pre x W _ (Array.getElem?_eq_some_iff.1 hl).1 hi ?_)⟩
      clear hy
      intro a' Wa hga hia hax
      replace hl := (hga.block _ (Array.getElem?_eq_some_iff.1 hl).1).trans hl
      replace hk := (hga.block _ (Array.getElem?_eq_some_iff.1 hk).1).trans hk
      have hlt : w.heap.size + 1 < Wa.heap.size := (Array.getElem?_eq_some_iff.1 hl).1
      refine ⟨_, run_beginRound hl (by rw [hrec]), ?_⟩
      obtain ⟨Wb, hWb⟩ : ∃ Wb, Wa.putObj (w.heap.size + 1) (.loop { rec .ready with state := .busy }) = Wb := ⟨_, rfl⟩
      rw [hWb]
      have hl2 : Wb.heap[w.heap.size + 1]? = some (.loop { rec .ready with state := .busy }) := by rw [← hWb]; exact World.putObj_heap_same hlt
      have hk2 : Wb.heap[w.heap.size]? = some (.deferred (some [])) := by rw [← hWb]; exact (World.putObj_heap_other (by omega)).trans hk
      have hq := put Wa (rec .ready) { rec .ready with state := .busy } hl
      rw [hWb] at hq
      have hib : I pre Wb := hI pre Wa Wb hia hq
      have hab : Ax x a' Wb := hAx x a' () Wa Wb hax hq
      have hkb : Kp W Wb := hKt (hKg hga) (by rw [← hWb]; exact hKl Wa _ _ hl)
      refine wpIn_mono (hbody _ pre x a' Wb ⟨_, hl2⟩ hib hab hlen) ?_
      rintro e a3 W3 hp
      cases e with
      | normal =>
        obtain ⟨e1, e2, hk3, hi3⟩ := hp
        have hl3 := e2.trans hl2
        have hr : (Instr.endRound (w.heap.size + 1) none).run P W3 = .ok (.bool true) (W3.putObj (w.heap.size + 1) (.loop (rec .ready))) := by
          have := run_endRound (P := P) none hl3
          rw [hrec] at this ⊢
          exact this
        have hq3 := put W3 _ (rec .ready) hl3
        exact ⟨_, _, hr, rfl, ⟨hI _ W3 _ hi3 hq3, World.putObj_heap_same (Array.getElem?_eq_some_iff.1 hl3).1, (World.putObj_heap_other (by omega)).trans (e1.trans hk2)⟩, hKt hkb (hKt hk3 (hKl W3 _ _ hl3))⟩
      | ret => exact hp.elim
      | exit id => exact hp.elim
      | goto t => exact hp.elim
      | panic ch => exact hp.elim
      | outgrown => exact hp.elim
    · rintro e W2 ⟨⟨v, rfl⟩, xs, hS, hi, hl, hk⟩
      have he := run_endLoop (P := P) hl (by rw [hrec]; simp)
      have hq3 := put W2 _ { rec .ready with state := .exhausted } hl
      refine ⟨none, _, by rw [hrec] at he; rw [hrec]; exact he, hdone xs _ hS (hI xs W2 _ hi hq3) ((World.putObj_heap_other (by omega)).trans hk)⟩
end Go.Proofs.YtipgidkpjilhoaaDoor
