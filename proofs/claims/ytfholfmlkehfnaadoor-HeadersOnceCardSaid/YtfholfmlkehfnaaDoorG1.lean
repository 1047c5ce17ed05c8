/-
  The program's iterator of layer 5: the changes that may be done from a header, in their order, whatever the loop's body, as long as it leaves the iterator's own memory alone; conditions: the tables read as the program lays them.
-/
import Derived.Test.YtfholfmlkehfnaaDoorU2
import Derived.Test.YtfholfmlkehfnaaDoorT2
import Derived.RangeFuncNested
import Derived.RangeFuncBound
import Derived.RangeFuncCalls
import Derived.RangeFuncLeaves
import Derived.RangeFuncStops
import Derived.RangeFuncOwn
import Derived.RangeFuncBox
import Derived.Shelf.Abstract
import Derived.Shelf.RegionOpen
import Derived.LoopNIn
import Derived.LoopIn
namespace Go.Proofs.YtfholfmlkehfnaaDoor
open Go.RowKit Go.Shelf

/-- A change with the header behind it, as the loop's body gets it. -/
def Hd.vs (x : Hd) : Array Value := #[.int .u8 x.c, hV x.s x.g]
/-- What a loop's body leaves alone, and which blocks it may not touch. -/
structure Fair (Kp : World → World → Prop) (Ok : World → Prop) (Mine : World → Nat → Prop) : Prop where
  same : ∀ X Y q o, Kp X Y → Mine X q → X.heap[q]? = some o → o.isCells = true → Y.heap[q]? = some o
  mine : ∀ X Y q, Kp X Y → q < X.heap.size → Mine X q → Mine Y q
  ok : ∀ X Y, Kp X Y → Ok X → Ok Y
  size : ∀ X Y, Kp X Y → X.heap.size ≤ Y.heap.size
  mineG : ∀ X Y q, Below X.heap.size X Y → q < X.heap.size → Mine X q → Mine Y q
  okG : ∀ X Y, Below X.heap.size X Y → Ok X → Ok Y
  new : ∀ X Y q, Below X.heap.size X Y → X.heap.size ≤ q → Ok X → Mine Y q
/-- What stands while a line is held against a header. -/
def SLn (q7 q4 q8 bm : Nat) (c fs ts tg s g most : Int) (w : World) : Prop :=
  w.heap[q7]? = some (.cells #[.int .u8 c, .int .u8 fs, .int .u64 0, .int .u8 ts, .int .u64 tg] 65 (0, 0)) ∧ w.heap[q4]? = some (.cells #[.int .u8 s, .int .u64 g] 48 (0, 0)) ∧
    w.heap[q8]? = some (.cells #[.int .u8 ts, .int .u64 (tg + g)] 48 (0, 0)) ∧ w.heap[bm]? = some (.cells #[.int .u32 most] 24 (0, 0))
theorem SLn.grown {q7 q4 q8 bm : Nat} {c fs ts tg s g most : Int} {w w' : World} (h : SLn q7 q4 q8 bm c fs ts tg s g most w) (hb : Below w.heap.size w w') : SLn q7 q4 q8 bm c fs ts tg s g most w' := by
  obtain ⟨h1, h2, h3, h4⟩ := h
  have k : ∀ {q : Nat} {o : Obj}, w.heap[q]? = some o → w'.heap[q]? = some o := fun {q o} hq => (hb.block q (Array.getElem?_eq_some_iff.1 hq).1).trans hq
  exact ⟨k h1, k h2, k h3, k h4⟩
theorem below_next {X Y Z : World} (h : Below X.heap.size X Y) (k : Below Y.heap.size Y Z) : Below X.heap.size X Z := h.trans (k.mono h.size)
theorem abides_grown {β : Type} {J : β → World → Prop} {B : Nat} (hJ : AbidesFrom B J) (s : β) {X Y : World} (h : J s X) (hb : Below X.heap.size X Y) : J s Y :=
  hJ s X Y none h ⟨hb.os, hb.tape, hb.output, hb.size, fun k hk _ => hb.block k hk⟩ (fun r e => by cases e)

/-- What stands between two lines. -/
structure ItN (J : List Hd → World → Prop) (Ok : World → Prop) (Mine : World → Nat → Prop) (q4 bm : Nat) (s g most : Int) (k : Nat) (w : World) : Prop where
  j : J (nextN s g most k) w
  h4 : w.heap[q4]? = some (.cells #[.int .u8 s, .int .u64 g] 48 (0, 0))
  hm : w.heap[bm]? = some (.cells #[.int .u32 most] 24 (0, 0))
  ok : Ok w
  m4 : Mine w q4
  mm : Mine w bm
theorem ItN.grown {J : List Hd → World → Prop} {Kp : World → World → Prop} {Ok : World → Prop} {Mine : World → Nat → Prop} {q4 bm : Nat} {s g most : Int} {k : Nat} {w w' : World} (h : ItN J Ok Mine q4 bm s g most k w)
    (hJ : ∀ s X Y, J s X → Below X.heap.size X Y → J s Y) (hF : Fair Kp Ok Mine) (hb : Below w.heap.size w w') : ItN J Ok Mine q4 bm s g most k w' := by
  have a4 := (Array.getElem?_eq_some_iff.1 h.h4).1
  have am := (Array.getElem?_eq_some_iff.1 h.hm).1
  exact ⟨hJ _ _ _ h.j hb, (hb.block q4 a4).trans h.h4, (hb.block bm am).trans h.hm, hF.okG _ _ hb h.ok, hF.mineG _ _ _ hb a4 h.m4, hF.mineG _ _ _ hb am h.mm⟩
theorem nextN_mem {s g most : Int} {k : Nat} (h : k < 8) (hg : goes s g most (lnC.getD k default) = true) : (lnC.getD k default).hd g ∈ nextC s g most := by
  obtain ⟨r, hr⟩ := nextN_pre s g most (k + 1) h
  rw [← hr, nextN_yes h hg]
  simp
theorem lnC_tg {k : Nat} (h : k < 8) : 0 ≤ (lnC.getD k default).tg ∧ (lnC.getD k default).tg ≤ 1 := by
  have : ∀ l ∈ lnC, 0 ≤ l.tg ∧ l.tg ≤ 1 := by decide
  exact this _ (List.mem_of_getElem? (lnC_at h))
set_option maxRecDepth 100000 in
set_option maxHeartbeats 4000000 in
theorem next1_in (n y bx bm : Nat) (x most : Int) (hn : 1 ≤ n) (Kp : World → World → Prop) (Ok : World → Prop) (Mine : World → Nat → Prop) (HF : Fair Kp Ok Mine) (J Jx : List Hd → World → Prop) (hJ : ∀ s X Y, J s X → Below X.heap.size X Y → J s Y)
    (hY : ∀ pre z W1, J pre W1 → pre.length < (nextH x most).length → z ∈ nextH x most → YieldAt Fence.wide (n - 1) Tryd.prog y z.vs W1 fun e W' =>
      (e = .returned (.bool true) ∧ J (pre ++ [z]) W' ∧ Kp W1 W') ∨ (e = .returned (.bool false) ∧ Jx (pre ++ [z]) W'))
    (W : World) (hl : Lay W) (hll : LayL W) (hx : U64 x) (hm' : U32 most) (hbx : W.cell? ⟨bx, 0, none⟩ = some (.int .u64 x)) (hbm : W.heap[bm]? = some (.cells #[.int .u32 most] 24 (0, 0))) (hok : Ok W) (hmine : Mine W bm) (h0 : J [] W) :
    CallsIn Fence.wide n Tryd.prog 32 #[.func (.yield y) #[] #[], .pointer (some ⟨bx, 0, none⟩), .pointer (some ⟨bm, 0, none⟩)] W fun e W' => (∃ v, e = .returned v) ∧ ((∃ xs, xs = nextH x most ∧ J xs W') ∨ (∃ pre, (∃ r, pre ++ r = nextH x most) ∧ Jx pre W')) := by
  have hcm : W.cell? ⟨bm, 0, none⟩ = some (.int .u32 most) := by rw [cell_of_row _ _ _ _ _ _ hbm]; rfl
  have HRD := Lib.hid (read_any x most W hl hx hm')
  simp only [hV] at HRD
  have HX := Lib.hid hx
  have HM' := Lib.hid hm'
  have HBM := Lib.hid hbm
  have HOK := Lib.hid hok
  have HMI := Lib.hid hmine
  have HJ := Lib.hid hJ
  have HY := Lib.hid hY
  have H0 := Lib.hid h0
  have HLL := Lib.hid hll
  have HFF := Lib.hid HF
  clear hl hll hx hm' hbm hok hmine hJ hY h0 HF
  refine callsIn_of_wp Tryd.func32 rfl trivial ?_ rfl
  simp only [Tryd.ntmps32, List.size_toArray, List.length_cons, List.length_nil, Nat.reduceAdd, Nat.reduceSub, Array.replicate_succ, Array.replicate_zero, List.push_toArray, List.append_toArray, List.nil_append, List.cons_append]
  obtain ⟨b, hb⟩ : ∃ b, mayH x most = b := ⟨_, rfl⟩
  rw [hb] at HRD
  have HB := Lib.hid hb
  clear hb
  cases b with
  | false =>
    have HN := Lib.hid (nextH_no HB.out)
    gi_wp2_with (refine ⟨trivial, ?_⟩; gi_at_call 19; refine (callsIn_wide.2 HRD.out).mono ?_; rintro e w1 ⟨rfl, hb1⟩)
    refine bodyPost_ret (results_none rfl _ _ _) rfl ?_
    exact ⟨⟨_, rfl⟩, .inl ⟨_, rfl, by rw [HN.out]; exact HJ.out _ _ _ H0.out (below_next hb1 ((Below.refl _ _).alloc (Nat.le_refl _) _))⟩⟩
  | true =>
    have hn := show nextH x most = nextC (sOf x) (gOf x) most by unfold nextH; rw [if_pos HB.out]
    have hg : U32 (gOf x) := by unfold gOf U32; omega
    rw [hn] at HY ⊢
    have HG := Lib.hid hg
    clear hn hg HB HX
    generalize sOf x = s at *
    generalize gOf x = g at *
    gi_wp2_with (first
      | (refine ⟨trivial, ?_⟩; gi_at_call 19; refine (callsIn_wide.2 HRD.out).mono ?_; rintro e w1 ⟨rfl, hb1⟩; obtain ⟨t66, fr, hll1⟩ := HLL.out.below HLL.out.lt (hb1.mono (Nat.le_refl _)))
      | (refine wpListIn_load_row rfl 66 _ rfl 0 rfl t66 linesC fr _ ((Below.heap_alloc _ _ _ (by have := HLL.out.lt; have := hb1.size; omega)).trans hll1) Tryd.underlying66 rfl isz66 ?_))
    have hG1 : Below W.heap.size W (w1.alloc (.cells #[.int .u8 s, .int .u64 g] 48)) := below_next hb1 ((Below.refl _ _).alloc (Nat.le_refl _) _)
    have hbl := (Array.getElem?_eq_some_iff.1 HBM.out).1
    have hit : ItN J Ok Mine w1.heap.size bm s g most 0 (w1.alloc (.cells #[.int .u8 s, .int .u64 g] 48)) :=
      ⟨HJ.out _ _ _ H0.out hG1, heap_alloc_new w1 _, (hG1.block bm hbl).trans HBM.out, HFF.out.okG _ _ hG1 HOK.out, HFF.out.new _ _ _ hG1 hb1.size HOK.out, HFF.out.mineG _ _ _ hG1 hbl HMI.out⟩
    have HIT := Lib.hid hit
    clear hit hG1 H0 HBM HOK HMI HRD hll1 hbl HLL
    revert HIT
    clear hb1
    generalize w1.alloc (.cells #[.int .u8 s, .int .u64 g] 48) = W1
    generalize w1.heap.size = q4
    intro HIT
    gi_loopw [18] (fun i wr => ∃ k : Nat, k ≤ 8 ∧ i = .int .i64 (k : Int) ∧ Hid (ItN J Ok Mine q4 bm s g most k wr)) (fun i _ => 8 - (intOf i).toNat)
    case atStart => exact ⟨0, by omega, rfl, HIT⟩
    case round =>
      obtain ⟨k, hk, rfl, HI⟩ := hrel
      by_cases hlt : k < 8
      · have hlt' : (k : Int) < 8 := by omega
        have hge : (0 : Int) ≤ (k : Int) := by omega
        obtain ⟨⟨c, fs, ts, tg⟩, hln⟩ : ∃ l, lnC.getD k default = l := ⟨_, rfl⟩
        have htg := lnC_tg hlt
        rw [hln] at htg
        have htg' : 0 ≤ tg ∧ tg ≤ 1 := htg
        have HON := Lib.hid (fun W => on_any ts tg g W (by have := HG.out; unfold U32 at this; unfold U64; omega))
        have HON1 := Lib.hid (fun W => on_any fs 0 g W (by have := HG.out; unfold U32 at this; unfold U64; omega))
        simp only [hV, Int.zero_add] at HON HON1
        have HMAY := Lib.hid (fun W => hmay_any ts (tg + g) most W HM'.out)
        have HLN := Lib.hid hln
        have y4 := HI.out.h4
        have ym := HI.out.hm
        have c40 : wr.cell? ⟨q4, 0, none⟩ = some (.int .u8 s) := by rw [cell_of_row _ _ _ _ _ _ y4]; rfl
        have c41 : wr.cell? ⟨q4, 1, none⟩ = some (.int .u64 g) := by rw [cell_of_row _ _ _ _ _ _ y4]; rfl
        have hlt4 : q4 < wr.heap.size := (Array.getElem?_eq_some_iff.1 y4).1
        have HY4 := Lib.hid y4
        have HYM := Lib.hid ym
        clear hln htg htg' y4 ym
        gi_wp2_with (first
          | (refine wpListIn_line rfl (.tmp 17) (.tmp 18) rfl k hlt rfl rfl ?_; rw [HLN.out]; simp only [Ln.v])
          | (refine ⟨trivial, ?_⟩; gi_at_call 33; refine (callsIn_wide.2 (HON.out _)).mono ?_; rintro e w2 ⟨rfl, hb2⟩))
        have hW7 : Below wr.heap.size wr (wr.alloc (.cells #[.int .u8 c, .int .u8 fs, .int .u64 0, .int .u8 ts, .int .u64 tg] 65)) := (Below.refl _ _).alloc (Nat.le_refl _) _
        have hG2 := below_next hW7 hb2
        have hG6 : Below wr.heap.size wr (w2.alloc (.cells #[.int .u8 ts, .int .u64 (tg + g)] 48)).drew := (below_next hG2 ((Below.refl _ _).alloc (Nat.le_refl _) _)).drew
        have hW72 := hb2.size
        rw [World.size_alloc] at hW72
        have hlt8 : wr.heap.size < (w2.alloc (.cells #[.int .u8 ts, .int .u64 (tg + g)] 48)).heap.size := by simp; omega
        have hS0 : SLn wr.heap.size q4 w2.heap.size bm c fs ts tg s g most (w2.alloc (.cells #[.int .u8 ts, .int .u64 (tg + g)] 48)).drew :=
          ⟨(Below.heap_alloc w2 _ _ (by omega)).trans ((hb2.block wr.heap.size (by simp)).trans (heap_alloc_new wr _)), (hG6.block q4 hlt4).trans HY4.out, heap_alloc_new w2 _, (hG6.block bm (Array.getElem?_eq_some_iff.1 HYM.out).1).trans HYM.out⟩
        have HG6 := Lib.hid hG6
        clear hW7 hG2 hG6 hW72 hlt8 hb2 HON c40 c41
        revert hS0 HG6
        generalize w2.alloc (.cells #[.int .u8 ts, .int .u64 (tg + g)] 48) = W6
        intro hS0 HG6
        by_cases hfs : fs = s
        · subst hfs
          have HEQ := Lib.hid (fun w => (eql48 fs g fs g w).trans (by rw [decide_eq_true (show fs = fs ∧ g = g from ⟨rfl, rfl⟩)]))
          obtain ⟨b, hb⟩ : ∃ b, hm ts (tg + g) most = b := ⟨_, rfl⟩
          rw [hb] at HMAY
          have hgo : goes fs g most (lnC.getD k default) = b := by rw [HLN.out, ← hb]; simp [goes]
          clear hb
          cases b with
          | true =>
            have HLT := Lib.hid (nextN_lt hlt hgo)
            have HYES := Lib.hid (nextN_yes hlt hgo)
            have HMEM := Lib.hid (nextN_mem hlt hgo)
            clear hgo
            refine region_Y (y := 17) (S := SLn wr.heap.size q4 w2.heap.size bm c fs ts tg fs g most) (by kernel_rfl) ?_
            have hHeld := hS0
            refine anyY_take (i := 0) (y := 17) (o := { dst := some 26, op := _, type := _, pos := _, after := _, guard := _ }) (v := ?_) rfl (by kernel_rfl) (fun _ _ _ h => h) (Or.inl ⟨by rfl, ?_⟩) hHeld ?_
            rotate_left
            · intro w1 hS
              skip
              go_simp
              (try with_reducible rfl)
            (try simp only [Act.put, List.setIfInBounds_toArray, List.set_cons_zero, List.set_cons_succ])
            refine anyY_take (i := 1) (y := 17) (o := { dst := some 27, op := _, type := _, pos := _, after := _, guard := _ }) (v := ?_) rfl (by kernel_rfl) (fun _ _ _ h => h) (Or.inl ⟨by rfl, ?_⟩) hHeld ?_
            rotate_left
            · intro w1 hS
              obtain ⟨y7, y4, y8, ym⟩ := hS; have c70 := cell_of_row _ _ 0 _ _ _ y7; have c71 := cell_of_row _ _ 1 _ _ _ y7; have c72 := cell_of_row _ _ 2 _ _ _ y7; have c40 := cell_of_row _ _ 0 _ _ _ y4; have c41 := cell_of_row _ _ 1 _ _ _ y4; have c80 := cell_of_row _ _ 0 _ _ _ y8; have c81 := cell_of_row _ _ 1 _ _ _ y8; have cm0 := cell_of_row _ _ 0 _ _ _ ym; simp only [List.getElem?_toArray, List.getElem?_cons_zero, List.getElem?_cons_succ] at c70 c71 c72 c40 c41 c80 c81 cm0
              go_simp
              (try with_reducible rfl)
            (try simp only [Act.put, List.setIfInBounds_toArray, List.set_cons_zero, List.set_cons_succ])
            refine anyY_take (i := 2) (y := 17) (o := { dst := some 28, op := _, type := _, pos := _, after := _, guard := _ }) (v := ?_) rfl (by kernel_rfl) (fun _ _ _ h => h) (Or.inl ⟨by rfl, ?_⟩) hHeld ?_
            rotate_left
            · intro w1 hS
              skip
              go_simp
              (try with_reducible rfl)
            (try simp only [Act.put, List.setIfInBounds_toArray, List.set_cons_zero, List.set_cons_succ])
            refine anyY_take (i := 3) (y := 17) (o := { dst := some 29, op := _, type := _, pos := _, after := _, guard := _ }) (v := ?_) rfl (by kernel_rfl) (fun _ _ _ h => h) (Or.inl ⟨by rfl, ?_⟩) hHeld ?_
            rotate_left
            · intro w1 hS
              obtain ⟨y7, y4, y8, ym⟩ := hS; have c70 := cell_of_row _ _ 0 _ _ _ y7; have c71 := cell_of_row _ _ 1 _ _ _ y7; have c72 := cell_of_row _ _ 2 _ _ _ y7; have c40 := cell_of_row _ _ 0 _ _ _ y4; have c41 := cell_of_row _ _ 1 _ _ _ y4; have c80 := cell_of_row _ _ 0 _ _ _ y8; have c81 := cell_of_row _ _ 1 _ _ _ y8; have cm0 := cell_of_row _ _ 0 _ _ _ ym; simp only [List.getElem?_toArray, List.getElem?_cons_zero, List.getElem?_cons_succ] at c70 c71 c72 c40 c41 c80 c81 cm0
              go_simp
              (try with_reducible rfl)
            (try simp only [Act.put, List.setIfInBounds_toArray, List.set_cons_zero, List.set_cons_succ])
            refine anyY_take (i := 5) (y := 17) (o := { dst := some 31, op := _, type := _, pos := _, after := _, guard := _ }) (v := ?_) rfl (by kernel_rfl) (fun _ _ _ h => h) (Or.inl ⟨by rfl, ?_⟩) hHeld ?_
            rotate_left
            · intro w1 hS
              obtain ⟨y7, y4, y8, ym⟩ := hS; have c70 := cell_of_row _ _ 0 _ _ _ y7; have c71 := cell_of_row _ _ 1 _ _ _ y7; have c72 := cell_of_row _ _ 2 _ _ _ y7; have c40 := cell_of_row _ _ 0 _ _ _ y4; have c41 := cell_of_row _ _ 1 _ _ _ y4; have c80 := cell_of_row _ _ 0 _ _ _ y8; have c81 := cell_of_row _ _ 1 _ _ _ y8; have cm0 := cell_of_row _ _ 0 _ _ _ ym; simp only [List.getElem?_toArray, List.getElem?_cons_zero, List.getElem?_cons_succ] at c70 c71 c72 c40 c41 c80 c81 cm0
              go_simp
              (try with_reducible rfl)
            (try simp only [Act.put, List.setIfInBounds_toArray, List.set_cons_zero, List.set_cons_succ])
            refine anyY_next (i := 4) (o := { dst := some 30, op := _, type := _, pos := _, after := _, guard := _ }) (by decide) rfl (by kernel_rfl) (by rfl) (fun K hK => ?_)
            refine ⟨fun _ _ => trivial, ?_⟩
            rw [show Fence.wide.round = none from rfl, Oper.semAt_none]
            go_simp
            refine (callsIn_wide.2 (HON1.out _)).mono ?_
            rintro e w3 ⟨rfl, hb3⟩
            refine hK.out _ _ (hHeld.grown hb3) (fun hHeld2 => ?_)
            clear hK K hHeld
            have hHeld := hHeld2
            clear hHeld2
            (try simp only [Act.put, List.setIfInBounds_toArray, List.set_cons_zero, List.set_cons_succ])
            refine anyY_take (i := 6) (y := 17) (o := { dst := some 32, op := _, type := _, pos := _, after := _, guard := _ }) (v := ?_) rfl (by kernel_rfl) (fun _ _ _ h => h) (Or.inl ⟨by rfl, ?_⟩) hHeld ?_
            rotate_left
            · intro w1 hS
              have e48 := HEQ.out w1
              go_simp
              (try with_reducible rfl)
            (try simp only [Act.put, List.setIfInBounds_toArray, List.set_cons_zero, List.set_cons_succ])
            refine anyY_take (i := 7) (y := 17) (o := { dst := some 33, op := _, type := _, pos := _, after := _, guard := _ }) (v := ?_) rfl (by kernel_rfl) (fun _ _ _ h => h) (Or.inl ⟨by rfl, ?_⟩) hHeld ?_
            rotate_left
            · intro w1 hS
              skip
              go_simp
              (try with_reducible rfl)
            (try simp only [Act.put, List.setIfInBounds_toArray, List.set_cons_zero, List.set_cons_succ])
            refine anyY_take (i := 8) (y := 17) (o := { dst := some 34, op := _, type := _, pos := _, after := _, guard := _ }) (v := ?_) rfl (by kernel_rfl) (fun _ _ _ h => h) (Or.inl ⟨by rfl, ?_⟩) hHeld ?_
            rotate_left
            · intro w1 hS
              obtain ⟨y7, y4, y8, ym⟩ := hS; have c70 := cell_of_row _ _ 0 _ _ _ y7; have c71 := cell_of_row _ _ 1 _ _ _ y7; have c72 := cell_of_row _ _ 2 _ _ _ y7; have c40 := cell_of_row _ _ 0 _ _ _ y4; have c41 := cell_of_row _ _ 1 _ _ _ y4; have c80 := cell_of_row _ _ 0 _ _ _ y8; have c81 := cell_of_row _ _ 1 _ _ _ y8; have cm0 := cell_of_row _ _ 0 _ _ _ ym; simp only [List.getElem?_toArray, List.getElem?_cons_zero, List.getElem?_cons_succ] at c70 c71 c72 c40 c41 c80 c81 cm0
              go_simp
              (try with_reducible rfl)
            (try simp only [Act.put, List.setIfInBounds_toArray, List.set_cons_zero, List.set_cons_succ])
            refine anyY_take (i := 9) (y := 17) (o := { dst := some 35, op := _, type := _, pos := _, after := _, guard := _ }) (v := ?_) rfl (by kernel_rfl) (fun _ _ _ h => h) (Or.inl ⟨by rfl, ?_⟩) hHeld ?_
            rotate_left
            · intro w1 hS
              obtain ⟨y7, y4, y8, ym⟩ := hS; have c70 := cell_of_row _ _ 0 _ _ _ y7; have c71 := cell_of_row _ _ 1 _ _ _ y7; have c72 := cell_of_row _ _ 2 _ _ _ y7; have c40 := cell_of_row _ _ 0 _ _ _ y4; have c41 := cell_of_row _ _ 1 _ _ _ y4; have c80 := cell_of_row _ _ 0 _ _ _ y8; have c81 := cell_of_row _ _ 1 _ _ _ y8; have cm0 := cell_of_row _ _ 0 _ _ _ ym; simp only [List.getElem?_toArray, List.getElem?_cons_zero, List.getElem?_cons_succ] at c70 c71 c72 c40 c41 c80 c81 cm0
              go_simp
              (try with_reducible rfl)
            (try simp only [Act.put, List.setIfInBounds_toArray, List.set_cons_zero, List.set_cons_succ])
            refine anyY_next (i := 10) (o := { dst := some 36, op := _, type := _, pos := _, after := _, guard := _ }) (by decide) rfl (by kernel_rfl) (by rfl) (fun K hK => ?_)
            refine ⟨fun _ _ => trivial, ?_⟩
            rw [show Fence.wide.round = none from rfl, Oper.semAt_none]
            go_simp
            refine (callsIn_wide.2 (HMAY.out _)).mono ?_
            rintro e w4 ⟨rfl, hb4⟩
            refine hK.out _ _ (hHeld.grown hb4) (fun hHeld2 => ?_)
            clear hK K hHeld
            have hHeld := hHeld2
            clear hHeld2
            (try simp only [Act.put, List.setIfInBounds_toArray, List.set_cons_zero, List.set_cons_succ])
            refine anyY_take (i := 11) (y := 17) (o := { dst := some 37, op := _, type := _, pos := _, after := _, guard := _ }) (v := ?_) rfl (by kernel_rfl) (fun _ _ _ h => h) (Or.inl ⟨by rfl, ?_⟩) hHeld ?_
            rotate_left
            · intro w1 hS
              skip
              go_simp
              (try with_reducible rfl)
            (try simp only [Act.put, List.setIfInBounds_toArray, List.set_cons_zero, List.set_cons_succ])
            refine anyY_take (i := 12) (y := 17) (o := { dst := some 38, op := _, type := _, pos := _, after := _, guard := _ }) (v := ?_) rfl (by kernel_rfl) (fun _ _ _ h => h) (Or.inl ⟨by rfl, ?_⟩) hHeld ?_
            rotate_left
            · intro w1 hS
              skip
              go_simp
              (try with_reducible rfl)
            (try simp only [Act.put, List.setIfInBounds_toArray, List.set_cons_zero, List.set_cons_succ])
            refine anyY_take (i := 13) (y := 17) (o := { dst := some 39, op := _, type := _, pos := _, after := _, guard := _ }) (v := ?_) rfl (by kernel_rfl) (fun _ _ _ h => h) (Or.inl ⟨by rfl, ?_⟩) hHeld ?_
            rotate_left
            · intro w1 hS
              skip
              go_simp
              (try with_reducible rfl)
            (try simp only [Act.put, List.setIfInBounds_toArray, List.set_cons_zero, List.set_cons_succ])
            refine anyY_take (i := 14) (y := 17) (o := { dst := some 40, op := _, type := _, pos := _, after := _, guard := _ }) (v := ?_) rfl (by kernel_rfl) (fun _ _ _ h => h) (Or.inl ⟨by rfl, ?_⟩) hHeld ?_
            rotate_left
            · intro w1 hS
              skip
              go_simp
              (try with_reducible rfl)
            (try simp only [Act.put, List.setIfInBounds_toArray, List.set_cons_zero, List.set_cons_succ])
            refine anyY_take (i := 15) (y := 17) (o := { dst := some 41, op := _, type := _, pos := _, after := _, guard := _ }) (v := ?_) rfl (by kernel_rfl) (fun _ _ _ h => h) (Or.inl ⟨by rfl, ?_⟩) hHeld ?_
            rotate_left
            · intro w1 hS
              obtain ⟨y7, y4, y8, ym⟩ := hS; have c70 := cell_of_row _ _ 0 _ _ _ y7; have c71 := cell_of_row _ _ 1 _ _ _ y7; have c72 := cell_of_row _ _ 2 _ _ _ y7; have c40 := cell_of_row _ _ 0 _ _ _ y4; have c41 := cell_of_row _ _ 1 _ _ _ y4; have c80 := cell_of_row _ _ 0 _ _ _ y8; have c81 := cell_of_row _ _ 1 _ _ _ y8; have cm0 := cell_of_row _ _ 0 _ _ _ ym; simp only [List.getElem?_toArray, List.getElem?_cons_zero, List.getElem?_cons_succ] at c70 c71 c72 c40 c41 c80 c81 cm0
              go_simp
              (try with_reducible rfl)
            (try simp only [Act.put, List.setIfInBounds_toArray, List.set_cons_zero, List.set_cons_succ])
            refine anyY_take (i := 16) (y := 17) (o := { dst := some 42, op := _, type := _, pos := _, after := _, guard := _ }) (v := ?_) rfl (by kernel_rfl) (fun _ _ _ h => h) (Or.inl ⟨by rfl, ?_⟩) hHeld ?_
            rotate_left
            · intro w1 hS
              obtain ⟨y7, y4, y8, ym⟩ := hS; have c70 := cell_of_row _ _ 0 _ _ _ y7; have c71 := cell_of_row _ _ 1 _ _ _ y7; have c72 := cell_of_row _ _ 2 _ _ _ y7; have c40 := cell_of_row _ _ 0 _ _ _ y4; have c41 := cell_of_row _ _ 1 _ _ _ y4; have c80 := cell_of_row _ _ 0 _ _ _ y8; have c81 := cell_of_row _ _ 1 _ _ _ y8; have cm0 := cell_of_row _ _ 0 _ _ _ ym; simp only [List.getElem?_toArray, List.getElem?_cons_zero, List.getElem?_cons_succ] at c70 c71 c72 c40 c41 c80 c81 cm0
              go_simp
              (try with_reducible rfl)
            (try simp only [Act.put, List.setIfInBounds_toArray, List.set_cons_zero, List.set_cons_succ])
            have hG4 := below_next (below_next HG6.out hb3) hb4
            have hj6 := HJ.out _ _ _ HI.out.j hG4
            obtain ⟨fn, tmps, assign, body, hy, hR⟩ := HY.out (nextN fs g most k) ((lnC.getD k default).hd g) w4 hj6 HLT.out HMEM.out
            rw [HLN.out] at hy
            simp only [Hd.vs, Ln.hd, hV] at hy
            have HRR := Lib.hid hR
            clear hR
            refine anyY_last (y := 17) (o := { dst := some 43, op := _, type := _, pos := _, after := _, guard := _ }) rfl (by kernel_rfl) (by rfl) (fun K hK => ?_)
            refine ⟨fun _ _ => trivial, ?_⟩
            rw [show Fence.wide.round = none from rfl, Oper.semAt_none]
            go_simp
            refine HRR.out.mono ?_
            rintro e w5 (⟨rfl, hj5, hk5⟩ | ⟨rfl, hj5⟩)
            · refine hK.out _ _ ?_
              clear hK K
              (try simp only [Act.put, List.setIfInBounds_toArray, List.set_cons_zero, List.set_cons_succ])
              refine wpAnyIn_take (i := 18) (oi := { dst := some 44, op := _, type := _, pos := _, after := _, guard := _ }) (v := ?_) rfl rfl (by kernel_rfl) (by kernel_rfl) (by kernel_rfl) (fun _ _ _ h => h) ⟨Or.inl ⟨by rfl, ?_⟩, fun _ => rfl⟩ ?_
              rotate_left
              · intro w1
                go_simp
                (try with_reducible rfl)
              (try simp only [Act.put, List.setIfInBounds_toArray, List.set_cons_zero, List.set_cons_succ])
              refine wpAnyIn_take (i := 19) (oi := { dst := some 45, op := _, type := _, pos := _, after := _, guard := _ }) (v := ?_) rfl rfl (by kernel_rfl) (by kernel_rfl) (by kernel_rfl) (fun _ _ _ h => h) ⟨Or.inl ⟨by rfl, ?_⟩, fun _ => rfl⟩ ?_
              rotate_left
              · intro w1
                go_simp
                (try with_reducible rfl)
              (try simp only [Act.put, List.setIfInBounds_toArray, List.set_cons_zero, List.set_cons_succ])
              refine wpAnyIn_done (by kernel_rfl) ?_ _
              gi_wp2
              go_roundw
              case rel =>
                have hm4 := HFF.out.mineG _ _ _ hG4 hlt4 HI.out.m4
                have hbl := (Array.getElem?_eq_some_iff.1 HYM.out).1
                have hmm := HFF.out.mineG _ _ _ hG4 hbl HI.out.mm
                refine ⟨k + 1, by omega, by go_num, Lib.hid ⟨by rw [HYES.out]; exact hj5, HFF.out.same _ _ _ _ hk5 hm4 hHeld.2.1 rfl, HFF.out.same _ _ _ _ hk5 hmm hHeld.2.2.2 rfl, HFF.out.ok _ _ hk5 (HFF.out.okG _ _ hG4 HI.out.ok),
                  HFF.out.mine _ _ _ hk5 (Nat.lt_of_lt_of_le hlt4 hG4.size) hm4, HFF.out.mine _ _ _ hk5 (Nat.lt_of_lt_of_le hbl hG4.size) hmm⟩⟩
              case measure => simp [intOf]; omega
            · refine hK.out _ _ ?_
              clear hK K
              (try simp only [Act.put, List.setIfInBounds_toArray, List.set_cons_zero, List.set_cons_succ])
              refine wpAnyIn_take (i := 18) (oi := { dst := some 44, op := _, type := _, pos := _, after := _, guard := _ }) (v := ?_) rfl rfl (by kernel_rfl) (by kernel_rfl) (by kernel_rfl) (fun _ _ _ h => h) ⟨Or.inl ⟨by rfl, ?_⟩, fun _ => rfl⟩ ?_
              rotate_left
              · intro w1
                go_simp
                (try with_reducible rfl)
              (try simp only [Act.put, List.setIfInBounds_toArray, List.set_cons_zero, List.set_cons_succ])
              refine wpAnyIn_take (i := 19) (oi := { dst := some 45, op := _, type := _, pos := _, after := _, guard := _ }) (v := ?_) rfl rfl (by kernel_rfl) (by kernel_rfl) (by kernel_rfl) (fun _ _ _ h => h) ⟨Or.inl ⟨by rfl, ?_⟩, fun _ => rfl⟩ ?_
              rotate_left
              · intro w1
                go_simp
                (try with_reducible rfl)
              (try simp only [Act.put, List.setIfInBounds_toArray, List.set_cons_zero, List.set_cons_succ])
              refine wpAnyIn_done (by kernel_rfl) ?_ _
              gi_wp2
              refine bodyPost_ret (results_none rfl _ _ _) rfl ?_
              have hpre := nextN_pre fs g most (k + 1) (by omega)
              rw [HYES.out] at hpre
              exact ⟨⟨_, rfl⟩, .inr ⟨_, hpre, hj5⟩⟩
          | false =>
            have HNO := Lib.hid (nextN_no hlt hgo)
            clear hgo
            refine region_Y (y := 17) (S := SLn wr.heap.size q4 w2.heap.size bm c fs ts tg fs g most) (by kernel_rfl) ?_
            have hHeld := hS0
            refine anyY_take (i := 0) (y := 17) (o := { dst := some 26, op := _, type := _, pos := _, after := _, guard := _ }) (v := ?_) rfl (by kernel_rfl) (fun _ _ _ h => h) (Or.inl ⟨by rfl, ?_⟩) hHeld ?_
            rotate_left
            · intro w1 hS
              skip
              go_simp
              (try with_reducible rfl)
            (try simp only [Act.put, List.setIfInBounds_toArray, List.set_cons_zero, List.set_cons_succ])
            refine anyY_take (i := 1) (y := 17) (o := { dst := some 27, op := _, type := _, pos := _, after := _, guard := _ }) (v := ?_) rfl (by kernel_rfl) (fun _ _ _ h => h) (Or.inl ⟨by rfl, ?_⟩) hHeld ?_
            rotate_left
            · intro w1 hS
              obtain ⟨y7, y4, y8, ym⟩ := hS; have c70 := cell_of_row _ _ 0 _ _ _ y7; have c71 := cell_of_row _ _ 1 _ _ _ y7; have c72 := cell_of_row _ _ 2 _ _ _ y7; have c40 := cell_of_row _ _ 0 _ _ _ y4; have c41 := cell_of_row _ _ 1 _ _ _ y4; have c80 := cell_of_row _ _ 0 _ _ _ y8; have c81 := cell_of_row _ _ 1 _ _ _ y8; have cm0 := cell_of_row _ _ 0 _ _ _ ym; simp only [List.getElem?_toArray, List.getElem?_cons_zero, List.getElem?_cons_succ] at c70 c71 c72 c40 c41 c80 c81 cm0
              go_simp
              (try with_reducible rfl)
            (try simp only [Act.put, List.setIfInBounds_toArray, List.set_cons_zero, List.set_cons_succ])
            refine anyY_take (i := 2) (y := 17) (o := { dst := some 28, op := _, type := _, pos := _, after := _, guard := _ }) (v := ?_) rfl (by kernel_rfl) (fun _ _ _ h => h) (Or.inl ⟨by rfl, ?_⟩) hHeld ?_
            rotate_left
            · intro w1 hS
              skip
              go_simp
              (try with_reducible rfl)
            (try simp only [Act.put, List.setIfInBounds_toArray, List.set_cons_zero, List.set_cons_succ])
            refine anyY_take (i := 3) (y := 17) (o := { dst := some 29, op := _, type := _, pos := _, after := _, guard := _ }) (v := ?_) rfl (by kernel_rfl) (fun _ _ _ h => h) (Or.inl ⟨by rfl, ?_⟩) hHeld ?_
            rotate_left
            · intro w1 hS
              obtain ⟨y7, y4, y8, ym⟩ := hS; have c70 := cell_of_row _ _ 0 _ _ _ y7; have c71 := cell_of_row _ _ 1 _ _ _ y7; have c72 := cell_of_row _ _ 2 _ _ _ y7; have c40 := cell_of_row _ _ 0 _ _ _ y4; have c41 := cell_of_row _ _ 1 _ _ _ y4; have c80 := cell_of_row _ _ 0 _ _ _ y8; have c81 := cell_of_row _ _ 1 _ _ _ y8; have cm0 := cell_of_row _ _ 0 _ _ _ ym; simp only [List.getElem?_toArray, List.getElem?_cons_zero, List.getElem?_cons_succ] at c70 c71 c72 c40 c41 c80 c81 cm0
              go_simp
              (try with_reducible rfl)
            (try simp only [Act.put, List.setIfInBounds_toArray, List.set_cons_zero, List.set_cons_succ])
            refine anyY_take (i := 5) (y := 17) (o := { dst := some 31, op := _, type := _, pos := _, after := _, guard := _ }) (v := ?_) rfl (by kernel_rfl) (fun _ _ _ h => h) (Or.inl ⟨by rfl, ?_⟩) hHeld ?_
            rotate_left
            · intro w1 hS
              obtain ⟨y7, y4, y8, ym⟩ := hS; have c70 := cell_of_row _ _ 0 _ _ _ y7; have c71 := cell_of_row _ _ 1 _ _ _ y7; have c72 := cell_of_row _ _ 2 _ _ _ y7; have c40 := cell_of_row _ _ 0 _ _ _ y4; have c41 := cell_of_row _ _ 1 _ _ _ y4; have c80 := cell_of_row _ _ 0 _ _ _ y8; have c81 := cell_of_row _ _ 1 _ _ _ y8; have cm0 := cell_of_row _ _ 0 _ _ _ ym; simp only [List.getElem?_toArray, List.getElem?_cons_zero, List.getElem?_cons_succ] at c70 c71 c72 c40 c41 c80 c81 cm0
              go_simp
              (try with_reducible rfl)
            (try simp only [Act.put, List.setIfInBounds_toArray, List.set_cons_zero, List.set_cons_succ])
            refine anyY_next (i := 4) (o := { dst := some 30, op := _, type := _, pos := _, after := _, guard := _ }) (by decide) rfl (by kernel_rfl) (by rfl) (fun K hK => ?_)
            refine ⟨fun _ _ => trivial, ?_⟩
            rw [show Fence.wide.round = none from rfl, Oper.semAt_none]
            go_simp
            refine (callsIn_wide.2 (HON1.out _)).mono ?_
            rintro e w3 ⟨rfl, hb3⟩
            refine hK.out _ _ (hHeld.grown hb3) (fun hHeld2 => ?_)
            clear hK K hHeld
            have hHeld := hHeld2
            clear hHeld2
            (try simp only [Act.put, List.setIfInBounds_toArray, List.set_cons_zero, List.set_cons_succ])
            refine anyY_take (i := 6) (y := 17) (o := { dst := some 32, op := _, type := _, pos := _, after := _, guard := _ }) (v := ?_) rfl (by kernel_rfl) (fun _ _ _ h => h) (Or.inl ⟨by rfl, ?_⟩) hHeld ?_
            rotate_left
            · intro w1 hS
              have e48 := HEQ.out w1
              go_simp
              (try with_reducible rfl)
            (try simp only [Act.put, List.setIfInBounds_toArray, List.set_cons_zero, List.set_cons_succ])
            refine anyY_take (i := 7) (y := 17) (o := { dst := some 33, op := _, type := _, pos := _, after := _, guard := _ }) (v := ?_) rfl (by kernel_rfl) (fun _ _ _ h => h) (Or.inl ⟨by rfl, ?_⟩) hHeld ?_
            rotate_left
            · intro w1 hS
              skip
              go_simp
              (try with_reducible rfl)
            (try simp only [Act.put, List.setIfInBounds_toArray, List.set_cons_zero, List.set_cons_succ])
            refine anyY_take (i := 8) (y := 17) (o := { dst := some 34, op := _, type := _, pos := _, after := _, guard := _ }) (v := ?_) rfl (by kernel_rfl) (fun _ _ _ h => h) (Or.inl ⟨by rfl, ?_⟩) hHeld ?_
            rotate_left
            · intro w1 hS
              obtain ⟨y7, y4, y8, ym⟩ := hS; have c70 := cell_of_row _ _ 0 _ _ _ y7; have c71 := cell_of_row _ _ 1 _ _ _ y7; have c72 := cell_of_row _ _ 2 _ _ _ y7; have c40 := cell_of_row _ _ 0 _ _ _ y4; have c41 := cell_of_row _ _ 1 _ _ _ y4; have c80 := cell_of_row _ _ 0 _ _ _ y8; have c81 := cell_of_row _ _ 1 _ _ _ y8; have cm0 := cell_of_row _ _ 0 _ _ _ ym; simp only [List.getElem?_toArray, List.getElem?_cons_zero, List.getElem?_cons_succ] at c70 c71 c72 c40 c41 c80 c81 cm0
              go_simp
              (try with_reducible rfl)
            (try simp only [Act.put, List.setIfInBounds_toArray, List.set_cons_zero, List.set_cons_succ])
            refine anyY_take (i := 9) (y := 17) (o := { dst := some 35, op := _, type := _, pos := _, after := _, guard := _ }) (v := ?_) rfl (by kernel_rfl) (fun _ _ _ h => h) (Or.inl ⟨by rfl, ?_⟩) hHeld ?_
            rotate_left
            · intro w1 hS
              obtain ⟨y7, y4, y8, ym⟩ := hS; have c70 := cell_of_row _ _ 0 _ _ _ y7; have c71 := cell_of_row _ _ 1 _ _ _ y7; have c72 := cell_of_row _ _ 2 _ _ _ y7; have c40 := cell_of_row _ _ 0 _ _ _ y4; have c41 := cell_of_row _ _ 1 _ _ _ y4; have c80 := cell_of_row _ _ 0 _ _ _ y8; have c81 := cell_of_row _ _ 1 _ _ _ y8; have cm0 := cell_of_row _ _ 0 _ _ _ ym; simp only [List.getElem?_toArray, List.getElem?_cons_zero, List.getElem?_cons_succ] at c70 c71 c72 c40 c41 c80 c81 cm0
              go_simp
              (try with_reducible rfl)
            (try simp only [Act.put, List.setIfInBounds_toArray, List.set_cons_zero, List.set_cons_succ])
            refine anyY_next (i := 10) (o := { dst := some 36, op := _, type := _, pos := _, after := _, guard := _ }) (by decide) rfl (by kernel_rfl) (by rfl) (fun K hK => ?_)
            refine ⟨fun _ _ => trivial, ?_⟩
            rw [show Fence.wide.round = none from rfl, Oper.semAt_none]
            go_simp
            refine (callsIn_wide.2 (HMAY.out _)).mono ?_
            rintro e w4 ⟨rfl, hb4⟩
            refine hK.out _ _ (hHeld.grown hb4) (fun hHeld2 => ?_)
            clear hK K hHeld
            have hHeld := hHeld2
            clear hHeld2
            (try simp only [Act.put, List.setIfInBounds_toArray, List.set_cons_zero, List.set_cons_succ])
            refine anyY_take (i := 11) (y := 17) (o := { dst := some 37, op := _, type := _, pos := _, after := _, guard := _ }) (v := ?_) rfl (by kernel_rfl) (fun _ _ _ h => h) (Or.inl ⟨by rfl, ?_⟩) hHeld ?_
            rotate_left
            · intro w1 hS
              skip
              go_simp
              (try with_reducible rfl)
            (try simp only [Act.put, List.setIfInBounds_toArray, List.set_cons_zero, List.set_cons_succ])
            refine anyY_take (i := 12) (y := 17) (o := { dst := some 38, op := _, type := _, pos := _, after := _, guard := _ }) (v := ?_) rfl (by kernel_rfl) (fun _ _ _ h => h) (Or.inl ⟨by rfl, ?_⟩) hHeld ?_
            rotate_left
            · intro w1 hS
              skip
              go_simp
              (try with_reducible rfl)
            (try simp only [Act.put, List.setIfInBounds_toArray, List.set_cons_zero, List.set_cons_succ])
            refine anyY_take (i := 13) (y := 17) (o := { dst := some 39, op := _, type := _, pos := _, after := _, guard := _ }) (v := undef) rfl (by kernel_rfl) (fun _ _ _ h => h) (Or.inr ⟨by rfl, rfl⟩) hHeld ?_
            (try simp only [Act.put, List.setIfInBounds_toArray, List.set_cons_zero, List.set_cons_succ])
            refine anyY_take (i := 14) (y := 17) (o := { dst := some 40, op := _, type := _, pos := _, after := _, guard := _ }) (v := undef) rfl (by kernel_rfl) (fun _ _ _ h => h) (Or.inr ⟨by rfl, rfl⟩) hHeld ?_
            (try simp only [Act.put, List.setIfInBounds_toArray, List.set_cons_zero, List.set_cons_succ])
            refine anyY_take (i := 15) (y := 17) (o := { dst := some 41, op := _, type := _, pos := _, after := _, guard := _ }) (v := undef) rfl (by kernel_rfl) (fun _ _ _ h => h) (Or.inr ⟨by rfl, rfl⟩) hHeld ?_
            (try simp only [Act.put, List.setIfInBounds_toArray, List.set_cons_zero, List.set_cons_succ])
            refine anyY_take (i := 16) (y := 17) (o := { dst := some 42, op := _, type := _, pos := _, after := _, guard := _ }) (v := undef) rfl (by kernel_rfl) (fun _ _ _ h => h) (Or.inr ⟨by rfl, rfl⟩) hHeld ?_
            (try simp only [Act.put, List.setIfInBounds_toArray, List.set_cons_zero, List.set_cons_succ])
            refine anyY_pass (y := 17) (o := { dst := some 43, op := _, type := _, pos := _, after := _, guard := _ }) rfl (by kernel_rfl) (by rfl) ?_
            (try simp only [Act.put, List.setIfInBounds_toArray, List.set_cons_zero, List.set_cons_succ])
            refine wpAnyIn_take (i := 18) (oi := { dst := some 44, op := _, type := _, pos := _, after := _, guard := _ }) (v := undef) rfl rfl (by kernel_rfl) (by kernel_rfl) (by kernel_rfl) (fun _ _ _ h => h) ⟨Or.inr ⟨by rfl, rfl⟩, fun _ => rfl⟩ ?_
            (try simp only [Act.put, List.setIfInBounds_toArray, List.set_cons_zero, List.set_cons_succ])
            refine wpAnyIn_take (i := 19) (oi := { dst := some 45, op := _, type := _, pos := _, after := _, guard := _ }) (v := ?_) rfl rfl (by kernel_rfl) (by kernel_rfl) (by kernel_rfl) (fun _ _ _ h => h) ⟨Or.inl ⟨by rfl, ?_⟩, fun _ => rfl⟩ ?_
            rotate_left
            · intro w1
              go_simp
              (try with_reducible rfl)
            (try simp only [Act.put, List.setIfInBounds_toArray, List.set_cons_zero, List.set_cons_succ])
            refine wpAnyIn_done (by kernel_rfl) ?_ _
            gi_wp2
            go_roundw
            case rel =>
              refine ⟨k + 1, by omega, by go_num, Lib.hid ?_⟩
              have hI2 := HI.out.grown HJ.out HFF.out (below_next (below_next HG6.out hb3) hb4)
              exact ⟨by rw [HNO.out]; exact hI2.j, hI2.h4, hI2.hm, hI2.ok, hI2.m4, hI2.mm⟩
            case measure => simp [intOf]; omega
        · have HEQ := Lib.hid (fun w => (eql48 fs g s g w).trans (by rw [decide_eq_false (show ¬ (fs = s ∧ g = g) from fun h => hfs h.1)]))
          have hgo : goes s g most (lnC.getD k default) = false := by rw [HLN.out]; simp [goes, hfs]
          have HNO := Lib.hid (nextN_no hlt hgo)
          clear hgo
          refine region_Y (y := 17) (S := SLn wr.heap.size q4 w2.heap.size bm c fs ts tg s g most) (by kernel_rfl) ?_
          have hHeld := hS0
          refine anyY_take (i := 0) (y := 17) (o := { dst := some 26, op := _, type := _, pos := _, after := _, guard := _ }) (v := ?_) rfl (by kernel_rfl) (fun _ _ _ h => h) (Or.inl ⟨by rfl, ?_⟩) hHeld ?_
          rotate_left
          · intro w1 hS
            skip
            go_simp
            (try with_reducible rfl)
          (try simp only [Act.put, List.setIfInBounds_toArray, List.set_cons_zero, List.set_cons_succ])
          refine anyY_take (i := 1) (y := 17) (o := { dst := some 27, op := _, type := _, pos := _, after := _, guard := _ }) (v := ?_) rfl (by kernel_rfl) (fun _ _ _ h => h) (Or.inl ⟨by rfl, ?_⟩) hHeld ?_
          rotate_left
          · intro w1 hS
            obtain ⟨y7, y4, y8, ym⟩ := hS; have c70 := cell_of_row _ _ 0 _ _ _ y7; have c71 := cell_of_row _ _ 1 _ _ _ y7; have c72 := cell_of_row _ _ 2 _ _ _ y7; have c40 := cell_of_row _ _ 0 _ _ _ y4; have c41 := cell_of_row _ _ 1 _ _ _ y4; have c80 := cell_of_row _ _ 0 _ _ _ y8; have c81 := cell_of_row _ _ 1 _ _ _ y8; have cm0 := cell_of_row _ _ 0 _ _ _ ym; simp only [List.getElem?_toArray, List.getElem?_cons_zero, List.getElem?_cons_succ] at c70 c71 c72 c40 c41 c80 c81 cm0
            go_simp
            (try with_reducible rfl)
          (try simp only [Act.put, List.setIfInBounds_toArray, List.set_cons_zero, List.set_cons_succ])
          refine anyY_take (i := 2) (y := 17) (o := { dst := some 28, op := _, type := _, pos := _, after := _, guard := _ }) (v := ?_) rfl (by kernel_rfl) (fun _ _ _ h => h) (Or.inl ⟨by rfl, ?_⟩) hHeld ?_
          rotate_left
          · intro w1 hS
            skip
            go_simp
            (try with_reducible rfl)
          (try simp only [Act.put, List.setIfInBounds_toArray, List.set_cons_zero, List.set_cons_succ])
          refine anyY_take (i := 3) (y := 17) (o := { dst := some 29, op := _, type := _, pos := _, after := _, guard := _ }) (v := ?_) rfl (by kernel_rfl) (fun _ _ _ h => h) (Or.inl ⟨by rfl, ?_⟩) hHeld ?_
          rotate_left
          · intro w1 hS
            obtain ⟨y7, y4, y8, ym⟩ := hS; have c70 := cell_of_row _ _ 0 _ _ _ y7; have c71 := cell_of_row _ _ 1 _ _ _ y7; have c72 := cell_of_row _ _ 2 _ _ _ y7; have c40 := cell_of_row _ _ 0 _ _ _ y4; have c41 := cell_of_row _ _ 1 _ _ _ y4; have c80 := cell_of_row _ _ 0 _ _ _ y8; have c81 := cell_of_row _ _ 1 _ _ _ y8; have cm0 := cell_of_row _ _ 0 _ _ _ ym; simp only [List.getElem?_toArray, List.getElem?_cons_zero, List.getElem?_cons_succ] at c70 c71 c72 c40 c41 c80 c81 cm0
            go_simp
            (try with_reducible rfl)
          (try simp only [Act.put, List.setIfInBounds_toArray, List.set_cons_zero, List.set_cons_succ])
          refine anyY_take (i := 5) (y := 17) (o := { dst := some 31, op := _, type := _, pos := _, after := _, guard := _ }) (v := ?_) rfl (by kernel_rfl) (fun _ _ _ h => h) (Or.inl ⟨by rfl, ?_⟩) hHeld ?_
          rotate_left
          · intro w1 hS
            obtain ⟨y7, y4, y8, ym⟩ := hS; have c70 := cell_of_row _ _ 0 _ _ _ y7; have c71 := cell_of_row _ _ 1 _ _ _ y7; have c72 := cell_of_row _ _ 2 _ _ _ y7; have c40 := cell_of_row _ _ 0 _ _ _ y4; have c41 := cell_of_row _ _ 1 _ _ _ y4; have c80 := cell_of_row _ _ 0 _ _ _ y8; have c81 := cell_of_row _ _ 1 _ _ _ y8; have cm0 := cell_of_row _ _ 0 _ _ _ ym; simp only [List.getElem?_toArray, List.getElem?_cons_zero, List.getElem?_cons_succ] at c70 c71 c72 c40 c41 c80 c81 cm0
            go_simp
            (try with_reducible rfl)
          (try simp only [Act.put, List.setIfInBounds_toArray, List.set_cons_zero, List.set_cons_succ])
          refine anyY_next (i := 4) (o := { dst := some 30, op := _, type := _, pos := _, after := _, guard := _ }) (by decide) rfl (by kernel_rfl) (by rfl) (fun K hK => ?_)
          refine ⟨fun _ _ => trivial, ?_⟩
          rw [show Fence.wide.round = none from rfl, Oper.semAt_none]
          go_simp
          refine (callsIn_wide.2 (HON1.out _)).mono ?_
          rintro e w3 ⟨rfl, hb3⟩
          refine hK.out _ _ (hHeld.grown hb3) (fun hHeld2 => ?_)
          clear hK K hHeld
          have hHeld := hHeld2
          clear hHeld2
          (try simp only [Act.put, List.setIfInBounds_toArray, List.set_cons_zero, List.set_cons_succ])
          refine anyY_take (i := 6) (y := 17) (o := { dst := some 32, op := _, type := _, pos := _, after := _, guard := _ }) (v := ?_) rfl (by kernel_rfl) (fun _ _ _ h => h) (Or.inl ⟨by rfl, ?_⟩) hHeld ?_
          rotate_left
          · intro w1 hS
            have e48 := HEQ.out w1
            go_simp
            (try with_reducible rfl)
          (try simp only [Act.put, List.setIfInBounds_toArray, List.set_cons_zero, List.set_cons_succ])
          refine anyY_take (i := 7) (y := 17) (o := { dst := some 33, op := _, type := _, pos := _, after := _, guard := _ }) (v := ?_) rfl (by kernel_rfl) (fun _ _ _ h => h) (Or.inl ⟨by rfl, ?_⟩) hHeld ?_
          rotate_left
          · intro w1 hS
            skip
            go_simp
            (try with_reducible rfl)
          (try simp only [Act.put, List.setIfInBounds_toArray, List.set_cons_zero, List.set_cons_succ])
          refine anyY_take (i := 8) (y := 17) (o := { dst := some 34, op := _, type := _, pos := _, after := _, guard := _ }) (v := undef) rfl (by kernel_rfl) (fun _ _ _ h => h) (Or.inr ⟨by rfl, rfl⟩) hHeld ?_
          (try simp only [Act.put, List.setIfInBounds_toArray, List.set_cons_zero, List.set_cons_succ])
          refine anyY_take (i := 9) (y := 17) (o := { dst := some 35, op := _, type := _, pos := _, after := _, guard := _ }) (v := undef) rfl (by kernel_rfl) (fun _ _ _ h => h) (Or.inr ⟨by rfl, rfl⟩) hHeld ?_
          (try simp only [Act.put, List.setIfInBounds_toArray, List.set_cons_zero, List.set_cons_succ])
          refine anyY_take (i := 10) (y := 17) (o := { dst := some 36, op := _, type := _, pos := _, after := _, guard := _ }) (v := undef) rfl (by kernel_rfl) (fun _ _ _ h => h) (Or.inr ⟨by rfl, rfl⟩) hHeld ?_
          (try simp only [Act.put, List.setIfInBounds_toArray, List.set_cons_zero, List.set_cons_succ])
          refine anyY_take (i := 11) (y := 17) (o := { dst := some 37, op := _, type := _, pos := _, after := _, guard := _ }) (v := ?_) rfl (by kernel_rfl) (fun _ _ _ h => h) (Or.inl ⟨by rfl, ?_⟩) hHeld ?_
          rotate_left
          · intro w1 hS
            skip
            go_simp
            (try with_reducible rfl)
          (try simp only [Act.put, List.setIfInBounds_toArray, List.set_cons_zero, List.set_cons_succ])
          refine anyY_take (i := 12) (y := 17) (o := { dst := some 38, op := _, type := _, pos := _, after := _, guard := _ }) (v := ?_) rfl (by kernel_rfl) (fun _ _ _ h => h) (Or.inl ⟨by rfl, ?_⟩) hHeld ?_
          rotate_left
          · intro w1 hS
            skip
            go_simp
            (try with_reducible rfl)
          (try simp only [Act.put, List.setIfInBounds_toArray, List.set_cons_zero, List.set_cons_succ])
          refine anyY_take (i := 13) (y := 17) (o := { dst := some 39, op := _, type := _, pos := _, after := _, guard := _ }) (v := undef) rfl (by kernel_rfl) (fun _ _ _ h => h) (Or.inr ⟨by rfl, rfl⟩) hHeld ?_
          (try simp only [Act.put, List.setIfInBounds_toArray, List.set_cons_zero, List.set_cons_succ])
          refine anyY_take (i := 14) (y := 17) (o := { dst := some 40, op := _, type := _, pos := _, after := _, guard := _ }) (v := undef) rfl (by kernel_rfl) (fun _ _ _ h => h) (Or.inr ⟨by rfl, rfl⟩) hHeld ?_
          (try simp only [Act.put, List.setIfInBounds_toArray, List.set_cons_zero, List.set_cons_succ])
          refine anyY_take (i := 15) (y := 17) (o := { dst := some 41, op := _, type := _, pos := _, after := _, guard := _ }) (v := undef) rfl (by kernel_rfl) (fun _ _ _ h => h) (Or.inr ⟨by rfl, rfl⟩) hHeld ?_
          (try simp only [Act.put, List.setIfInBounds_toArray, List.set_cons_zero, List.set_cons_succ])
          refine anyY_take (i := 16) (y := 17) (o := { dst := some 42, op := _, type := _, pos := _, after := _, guard := _ }) (v := undef) rfl (by kernel_rfl) (fun _ _ _ h => h) (Or.inr ⟨by rfl, rfl⟩) hHeld ?_
          (try simp only [Act.put, List.setIfInBounds_toArray, List.set_cons_zero, List.set_cons_succ])
          refine anyY_pass (y := 17) (o := { dst := some 43, op := _, type := _, pos := _, after := _, guard := _ }) rfl (by kernel_rfl) (by rfl) ?_
          (try simp only [Act.put, List.setIfInBounds_toArray, List.set_cons_zero, List.set_cons_succ])
          refine wpAnyIn_take (i := 18) (oi := { dst := some 44, op := _, type := _, pos := _, after := _, guard := _ }) (v := undef) rfl rfl (by kernel_rfl) (by kernel_rfl) (by kernel_rfl) (fun _ _ _ h => h) ⟨Or.inr ⟨by rfl, rfl⟩, fun _ => rfl⟩ ?_
          (try simp only [Act.put, List.setIfInBounds_toArray, List.set_cons_zero, List.set_cons_succ])
          refine wpAnyIn_take (i := 19) (oi := { dst := some 45, op := _, type := _, pos := _, after := _, guard := _ }) (v := ?_) rfl rfl (by kernel_rfl) (by kernel_rfl) (by kernel_rfl) (fun _ _ _ h => h) ⟨Or.inl ⟨by rfl, ?_⟩, fun _ => rfl⟩ ?_
          rotate_left
          · intro w1
            go_simp
            (try with_reducible rfl)
          (try simp only [Act.put, List.setIfInBounds_toArray, List.set_cons_zero, List.set_cons_succ])
          refine wpAnyIn_done (by kernel_rfl) ?_ _
          gi_wp2
          go_roundw
          case rel =>
            refine ⟨k + 1, by omega, by go_num, Lib.hid ?_⟩
            have hI2 := HI.out.grown HJ.out HFF.out (below_next HG6.out hb3)
            exact ⟨by rw [HNO.out]; exact hI2.j, hI2.h4, hI2.hm, hI2.ok, hI2.m4, hI2.mm⟩
          case measure => simp [intOf]; omega
      · have hge : (8 : Int) ≤ (k : Int) := by omega
        obtain rfl : k = 8 := by omega
        gi_wp2
        go_end0
        exact ⟨⟨_, rfl⟩, .inl ⟨_, rfl, HI.out.j⟩⟩
end Go.Proofs.YtfholfmlkehfnaaDoor
