/-
  Addresses as keys of a map; Rows of single cells that came in, nil let in; conditions as each theorem says.
-/
import Derived.Test.YtmjcbjcnmgleaaaGreatDoorProg
import Derived.WalkKit
import Derived.Maps.Own
import Derived.Maps.OwnOps
import Derived.DeepKeys4
import Derived.WalkSpells
import Derived.WalkLawsBesides
import Derived.Deep.QuietTactic
import Derived.BigQuiet
import Derived.Lib.Hide
import Derived.DeepKeys2
import Derived.ChangeKeysEq
import Derived.Maps.Ext
import Derived.Deep.RegionHeld3
import Derived.StillTailTactics
import Derived.RegionTactic
import Derived.Test.YtmjcbjcnmgleaaaGreatDoorXP01
import Derived.Outline
import Derived.Test.YtmjcbjcnmgleaaaGreatDoorTie
import Derived.ProofKit
import Derived.LaidMore
import Derived.OpenShut
import Derived.Stop.Joined
import Derived.Lib.SmallJoins
import Derived.SevenTiedAt
import Derived.Deep.Slices
import Derived.Deep.Strs
import Derived.Carry
namespace Go.Proofs.YtmjcbjcnmgleaaaGreatDoor
open Go.RowKit Go.Maps
theorem laidOut : laidOutB Tryz.prog = true := by kernel_rfl
theorem row31 : 33 < Tryz.prog.types.size := of_decide_eq_true (by kernel_rfl)
theorem addr_law : WideMaps.KeyLaw Tryz.prog 33 := deep_law_laid laidOut (m := 5) (by decide) row31 (by kernel_rfl) (by kernel_rfl)
theorem addr_keyed : Keyed Tryz.prog 33 := Keyed.of_law addr_law
theorem keyType31 : Tryz.prog.keyType 33 = true := by kernel_rfl
theorem cells31 : Tryz.prog.cellsOf 33 = 3 := by kernel_rfl
theorem cells29 : Tryz.prog.cellsOf 31 = 1 := by kernel_rfl
theorem cells3 : Tryz.prog.cellsOf 3 = 1 := by kernel_rfl
def addrV (k a f : Int) : Value := .agg #[.int .u8 k, .int .i64 a, .int .i64 f]
theorem addr_key (k a f : Int) (hk : (Lit.int .u8 k).wf = true) (ha : (Lit.int .i64 a).wf = true) (hf : (Lit.int .i64 f).wf = true) : ∃ l, keyOf Tryz.prog 33 (addrV k a f) = some l := by
  unfold keyOf addrV
  rw [Tryz.underlying33]
  simp only [keyType31, Bool.true_and]
  have hform : Value.formed Tryz.prog 33 (.agg #[.int .u8 k, .int .i64 a, .int .i64 f]) = true := by
    simp [Value.formed, Tryz.underlying33, cells31]
  obtain ⟨d, hd⟩ : ∃ d, Tryz.prog.types.size + 1 = d + 2 := ⟨Tryz.prog.types.size - 1, by have := row31; omega⟩
  rw [if_pos hform, hd]
  simp [Program.keyLits, Tryz.underlying33, Tryz.underlying31, Tryz.underlying3, cells31, cells29, cells3, Value.cells, hk, ha, hf]
end Go.Proofs.YtmjcbjcnmgleaaaGreatDoor
namespace Go.Proofs.YtmjcbjcnmgleaaaGreatDoor
open Go.RowKit
theorem ret_bool {a b : Bool} (h : a = b) : Ending.returned (.bool a) = .returned (.bool b) := by rw [h]
def atRoom (k : Int) : Int := if k = 6 then 32 else if k = 7 then 4 else if k = 8 then 16 else if k = 9 then 256 else if k = 10 then 9 else 1
def fieldRoom (k : Int) : Int := if k = 6 then 2 else if k = 8 then 10 else if k = 9 then 8 else if k = 11 then 2 else 1
def mayB (k a f : Int) : Bool := decide (k ≤ 11) && decide (0 ≤ a) && decide (a < atRoom k) && decide (0 ≤ f) && decide (f < fieldRoom k)
def lessB (k a f k' a' f' : Int) : Bool := if k ≠ k' then decide (k < k') else if a ≠ a' then decide (a < a') else decide (f < f')
set_option maxHeartbeats 1000000 in
theorem less_any (k a f k' a' f' : Int) (w : World) :
    Calls Tryz.prog 81 #[.agg #[.int .u8 k, .int .i64 a, .int .i64 f], .agg #[.int .u8 k', .int .i64 a', .int .i64 f']] w fun e w' => e = .returned (.bool (lessB k a f k' a' f')) ∧ Below w.heap.size w w' := by
  by_cases h1 : k = k'
  · subst h1
    by_cases h2 : a = a'
    · subst h2
      go_enter Tryz.func81, Tryz.ntmps81
      go_wp2
      go_ret
      exact ⟨ret_bool (by simp [lessB]), ((Below.refl _ _).alloc (Nat.le_refl _) _).alloc (by simp) _⟩
    · have h2' : (a != a') = true := by rw [bne_iff_ne]; exact h2
      go_enter Tryz.func81, Tryz.ntmps81
      go_wp2
      go_ret
      exact ⟨ret_bool (by simp [lessB, h2]), ((Below.refl _ _).alloc (Nat.le_refl _) _).alloc (by simp) _⟩
  · have h1' : (k != k') = true := by rw [bne_iff_ne]; exact h1
    go_enter Tryz.func81, Tryz.ntmps81
    go_wp2
    go_ret
    exact ⟨ret_bool (by simp [lessB, h1]), ((Below.refl _ _).alloc (Nat.le_refl _) _).alloc (by simp) _⟩
set_option maxHeartbeats 1000000 in
theorem may_any (k a f : Int) (w : World) :
    Calls Tryz.prog 97 #[.agg #[.int .u8 k, .int .i64 a, .int .i64 f]] w fun e w' => e = .returned (.bool (mayB k a f)) ∧ Below w.heap.size w w' := by
  go_enter Tryz.func97, Tryz.ntmps97
  go_wp2
  all_goals
    go_ret
    refine ⟨ret_bool ?_, (Below.refl _ _).alloc (Nat.le_refl _) _⟩
    simp only [beq_iff_eq, beq_eq_false_iff_ne, ne_eq] at *
    unfold mayB atRoom fieldRoom
    first | (simp [*]; done) | (simp [*]; omega)
end Go.Proofs.YtmjcbjcnmgleaaaGreatDoor
namespace Go.Proofs.YtmjcbjcnmgleaaaGreatDoor
open Go.RowKit
theorem ret_intM {k : IntKind} {a b : Int} (h : a = b) : Ending.returned (.int k a) = .returned (.int k b) := by rw [h]
theorem below_drewNM' {B : Nat} {a w : World} (h : Below B a w) (n : Nat) : Below B a (w.drewN n) := ⟨h.os, h.tape, h.output, h.size, h.block⟩
structure Wd where
  k : Int
  a : Int
  f : Int
  v : Int
def Wd.is (x : Wd) (k a f : Int) : Bool := x.k == k && x.a == a && x.f == f
def look : List Wd → Int → Int → Int → Int
  | [], _, _, _ => 0
  | x :: r, k, a, f => if x.is k a f = true then x.v else look r k a f
def wd0 : Wd := ⟨0, 0, 0, 0⟩
theorem look_hit (l : List Wd) (k a f : Int) : ∀ i : Nat, i < l.length → (∀ j, j < i → (l.getD j wd0).is k a f = false) → (l.getD i wd0).is k a f = true → look l k a f = (l.getD i wd0).v := by
  induction l with
  | nil => intro i hi; simp at hi
  | cons x r ih =>
    intro i hi hb ht
    cases i with
    | zero => simp at ht; simp [look, ht]
    | succ i =>
      have h0 := hb 0 (by omega)
      simp at h0
      simp only [look, h0]
      have := ih i (by simpa using hi) (fun j hj => by simpa using hb (j + 1) (by omega)) (by simpa using ht)
      simpa using this
theorem look_miss (l : List Wd) (k a f : Int) (h : ∀ j, j < l.length → (l.getD j wd0).is k a f = false) : look l k a f = 0 := by
  induction l with
  | nil => rfl
  | cons x r ih =>
    have h0 := h 0 (by simp)
    simp at h0
    simp only [look, h0]
    exact ih fun j hj => by simpa using h (j + 1) (by simpa using hj)
def WdCells (w : World) (g : Nat) (l : List Wd) : Prop := ∀ i, i < l.length →
  w.cell? ⟨g, i * 4, none⟩ = some (.int .u8 (l.getD i wd0).k) ∧ w.cell? ⟨g, i * 4 + 1, none⟩ = some (.int .i64 (l.getD i wd0).a) ∧ w.cell? ⟨g, i * 4 + 2, none⟩ = some (.int .i64 (l.getD i wd0).f) ∧ w.cell? ⟨g, i * 4 + 3, none⟩ = some (.int .u64 (l.getD i wd0).v)
set_option maxHeartbeats 1000000 in
theorem word_nil (b : Nat) (k a f : Int) (w : World) (hb : w.cell? ⟨b, 0, none⟩ = some (.slice none 0 0)) :
    Calls Tryz.prog 64 #[.pointer (some ⟨b, 0, none⟩), .agg #[.int .u8 k, .int .i64 a, .int .i64 f]] w fun e w' => e = .returned (.int .u64 0) ∧ Below w.heap.size w w' := by
  have hbb : Below w.heap.size w (w.alloc (.cells #[.int .u8 k, .int .i64 a, .int .i64 f] 33)) := (Below.refl _ _).alloc (Nat.le_refl _) _
  have hb' : (w.alloc (.cells #[.int .u8 k, .int .i64 a, .int .i64 f] 33)).cell? ⟨b, 0, none⟩ = some (.slice none 0 0) := (hbb.cell (World.block_lt_of_cell? w _ hb)).trans hb
  have HB := Lib.hid hbb
  clear hbb hb
  go_enter Tryz.func64, Tryz.ntmps64
  go_wp2_with fail
  revert hb' HB
  generalize w.alloc (.cells #[.int .u8 k, .int .i64 a, .int .i64 f] 33) = w0
  intro hb' HB
  refine wp_loop_rounds 1 ?_
  rw [rounds_succ]
  go_wp2
  go_ret
  exact ⟨rfl, HB.out⟩
end Go.Proofs.YtmjcbjcnmgleaaaGreatDoor
namespace Go.Proofs.YtmjcbjcnmgleaaaGreatDoor
open Go.RowKit Go.Maps
structure Ad where
  k : Int
  a : Int
  f : Int
  wk : (Lit.int .u8 k).wf = true
  wa : (Lit.int .i64 a).wf = true
  wf : (Lit.int .i64 f).wf = true
def Ad.v (x : Ad) : Value := addrV x.k x.a x.f
def Ad.lit (x : Ad) : Lit := .string (keyBytes [.int .u8 x.k, .int .i64 x.a, .int .i64 x.f])
theorem Ad.ext {x y : Ad} (h : x.k = y.k ∧ x.a = y.a ∧ x.f = y.f) : x = y := by
  cases x; cases y
  simp only at h
  obtain ⟨rfl, rfl, rfl⟩ := h
  rfl
theorem Ad.v_inj {x y : Ad} (h : x.v = y.v) : x = y := by
  simp [Ad.v, addrV] at h
  exact Ad.ext h
instance : Inhabited Ad := ⟨⟨0, 0, 0, by decide, by decide, by decide⟩⟩
theorem Ad.key (x : Ad) : keyOf Tryz.prog 33 x.v = some x.lit := by
  have hk := x.wk
  have ha := x.wa
  have hf := x.wf
  unfold keyOf Ad.v addrV
  rw [Tryz.underlying33]
  simp only [keyType31, Bool.true_and]
  have hform : Value.formed Tryz.prog 33 (.agg #[.int .u8 x.k, .int .i64 x.a, .int .i64 x.f]) = true := by
    simp [Value.formed, Tryz.underlying33, cells31]
  obtain ⟨d, hd⟩ : ∃ d, Tryz.prog.types.size + 1 = d + 2 := ⟨Tryz.prog.types.size - 1, by have := row31; omega⟩
  rw [if_pos hform, hd]
  simp [Program.keyLits, Tryz.underlying33, Tryz.underlying31, Tryz.underlying3, cells31, cells29, cells3, Value.cells, hk, ha, hf, Ad.lit]
theorem Ad.lit_key (x : Ad) : WideAt.IsKeyLit x.lit := addr_keyed.key x.key
theorem Ad.lit_inj {x y : Ad} (h : x.lit = y.lit) : x = y := Ad.v_inj (addr_keyed.inj x.key (h ▸ y.key))
theorem keyLits_int_wf {P : Program} {d : Nat} {t : TypeId} {q : IntKind} {cs : List Value} {l : List Lit} (hu : P.underlying t = some (.int q)) (h : P.keyLits (d + 1) t cs = some l) :
    ∃ n, cs = [.int q n] ∧ l = [.int q n] ∧ (Lit.int q n).wf = true := by
  obtain ⟨n, rfl, rfl⟩ := keyLits_int' hu h
  refine ⟨n, rfl, rfl, ?_⟩
  simpa [Program.keyLits, hu] using h
set_option maxRecDepth 100000 in
theorem Ad.of_key {v : Value} {l : Lit} (h : keyOf Tryz.prog 33 v = some l) : ∃ x : Ad, v = x.v ∧ l = x.lit := by
  obtain ⟨xs, L, rfl, hl, rfl⟩ := keyOf_top (by rw [Tryz.underlying33]) h
  obtain ⟨d, hd⟩ : ∃ d, Tryz.prog.types.size + 1 = d + 2 := ⟨Tryz.prog.types.size - 1, by have := row31; omega⟩
  rw [hd] at hl
  unfold Program.keyLits at hl
  rw [Tryz.underlying33] at hl
  simp only [cells31, cells29, cells3, List.mapM_cons, List.mapM_nil] at hl
  split at hl
  · rename_i hc
    have hlen := hc.1
    match hxs : xs.toList, hlen with
    | [c0, c1, c2], _ =>
      rw [hxs] at hl
      simp only [List.drop_zero, List.drop_succ_cons, List.take_succ_cons, List.take_zero, Option.map_eq_some_iff, bind, Option.bind_eq_some_iff, pure, Option.some.injEq] at hl
      obtain ⟨ls, ⟨l0, h0, r1, ⟨l1, h1, r2, ⟨l2, h2, r3, hr3, hr2⟩, hr1⟩, hls⟩, hL⟩ := hl
      obtain ⟨k, e0, rfl, wk⟩ := keyLits_int_wf Tryz.underlying31 h0
      obtain ⟨a, e1, rfl, wa⟩ := keyLits_int_wf Tryz.underlying3 h1
      obtain ⟨f, e2, rfl, wf⟩ := keyLits_int_wf Tryz.underlying3 h2
      subst hr3; subst hr2; subst hr1; subst hls; subst hL
      simp only [List.cons.injEq, and_true] at e0 e1 e2
      subst e0; subst e1; subst e2
      refine ⟨⟨k, a, f, wk, wa, wf⟩, ?_, rfl⟩
      unfold Ad.v addrV
      congr 1
      rw [← Array.toList_inj, hxs]
  · cases hl
end Go.Proofs.YtmjcbjcnmgleaaaGreatDoor
namespace Go.Proofs.YtmjcbjcnmgleaaaGreatDoor
open Go.RowKit Go.Maps
def LayM (w : World) : Prop := 0 < w.heap.size ∧ ∀ k : Nat, k < 12 → w.cell? ⟨0, k * 2, none⟩ = some (.int .i64 (atRoom k)) ∧ w.cell? ⟨0, k * 2 + 1, none⟩ = some (.int .i64 (fieldRoom k))
theorem LayM.below {w w' : World} (h : LayM w) (hb : Below w.heap.size w w') : LayM w' :=
  ⟨Nat.lt_of_lt_of_le h.1 hb.size, fun k hk => ⟨(hb.cell (p := ⟨0, k * 2, none⟩) h.1).trans (h.2 k hk).1, (hb.cell (p := ⟨0, k * 2 + 1, none⟩) h.1).trans (h.2 k hk).2⟩⟩
theorem LayM.same {w w' : World} (h : LayM w) (hs : w.heap.size ≤ w'.heap.size) (hb : w'.heap[0]? = w.heap[0]?) : LayM w' :=
  ⟨Nat.lt_of_lt_of_le h.1 hs, fun k hk => ⟨(World.cell?_of_block (a := ⟨0, k * 2, none⟩) hb).trans (h.2 k hk).1, (World.cell?_of_block (a := ⟨0, k * 2 + 1, none⟩) hb).trans (h.2 k hk).2⟩⟩
theorem LayM.alloc {w : World} (h : LayM w) (o : Obj) : LayM (w.alloc o) := h.below ((Below.refl _ _).alloc (Nat.le_refl _) o)
set_option maxHeartbeats 1000000 in
theorem may_low (k a f r s : Int) (w : World) (h0 : 0 ≤ k) (h1 : k < 12) (c0 : (w.alloc (.cells #[.int .u8 k, .int .i64 a, .int .i64 f] 33)).cell? ⟨0, k.toNat * 2, none⟩ = some (.int .i64 r)) (c1 : (w.alloc (.cells #[.int .u8 k, .int .i64 a, .int .i64 f] 33)).cell? ⟨0, k.toNat * 2 + 1, none⟩ = some (.int .i64 s)) :
    Calls Tryz.prog 61 #[.agg #[.int .u8 k, .int .i64 a, .int .i64 f]] w fun e w' => e = .returned (.bool (decide (0 ≤ a) && decide (a < r) && decide (0 ≤ f) && decide (f < s))) ∧ Below w.heap.size w w' := by
  go_enter Tryz.func61, Tryz.ntmps61
  go_wp2
  all_goals
    go_ret
    refine ⟨ret_bool ?_, ((Below.refl _ _).alloc (Nat.le_refl _) _).alloc (by simp) _⟩
    simp
    try omega
theorem may_high (k a f : Int) (w : World) (h1 : 12 ≤ k) (h2 : k ≤ 255) :
    Calls Tryz.prog 61 #[.agg #[.int .u8 k, .int .i64 a, .int .i64 f]] w fun e w' => e = .returned (.bool false) ∧ Below w.heap.size w w' := by
  go_enter Tryz.func61, Tryz.ntmps61
  go_wp2
  go_ret
  exact ⟨rfl, (Below.refl _ _).alloc (Nat.le_refl _) _⟩
theorem may_prog (x : Ad) (w : World) (hl : LayM w) :
    Calls Tryz.prog 61 #[x.v] w fun e w' => e = .returned (.bool (mayB x.k x.a x.f)) ∧ Below w.heap.size w w' := by
  have hk := x.wk
  have h0 : 0 ≤ x.k ∧ x.k ≤ 255 := by simpa [Lit.wf, IntKind.min, IntKind.max, IntKind.signed, IntKind.bits] using hk
  by_cases h : x.k < 12
  · obtain ⟨n, hn⟩ := Int.eq_ofNat_of_zero_le h0.1
    have hc := (hl.alloc (.cells #[.int .u8 x.k, .int .i64 x.a, .int .i64 x.f] 33)).2 n (by omega)
    rw [← hn] at hc
    have hkn : x.k.toNat = n := by omega
    refine (may_low x.k x.a x.f (atRoom x.k) (fieldRoom x.k) w h0.1 h (by rw [hkn]; exact hc.1) (by rw [hkn]; exact hc.2)).mono ?_
    rintro e w' ⟨rfl, hb⟩
    exact ⟨ret_bool (by have e : decide (x.k ≤ 11) = true := by simpa using (show x.k ≤ 11 by omega)
                        unfold mayB; rw [e]; rfl), hb⟩
  · refine (may_high x.k x.a x.f w (by omega) h0.2).mono ?_
    rintro e w' ⟨rfl, hb⟩
    exact ⟨ret_bool (by have e : decide (x.k ≤ 11) = false := by simpa using (show 11 < x.k by omega)
                        unfold mayB; rw [e]; rfl), hb⟩
structure PM (p b n : Nat) (D : DataW Unit) (st ak k a f was is : Int) (done : Bool) (w : World) : Prop where
  blk : w.heap[p]? = some (.cells #[.map (some b), .int .i64 st, .int .u8 ak, .int .u8 k, .int .i64 a, .int .i64 f, .int .u64 was, .int .u64 is, .bool done] 121 (0, 0))
  own : w.ownsMap Tryz.prog 33 (plainElem Tryz.prog 34) b n D
theorem PM.cell {p b n : Nat} {D : DataW Unit} {st ak k a f was is : Int} {done : Bool} {w : World} (h : PM p b n D st ak k a f was is done w) (i : Nat) :
    w.cell? ⟨p, i, none⟩ = [.map (some b), .int .i64 st, .int .u8 ak, .int .u8 k, .int .i64 a, .int .i64 f, .int .u64 was, .int .u64 is, .bool done][i]? := by
  simp [World.cell?, h.blk]
theorem PM.free {p b n : Nat} {D : DataW Unit} {st ak k a f was is : Int} {done : Bool} {w : World} (h : PM p b n D st ak k a f was is done w) (i : Nat) : w.frozen? ⟨p, i, none⟩ = false := by
  simp [World.frozen?, h.blk]
theorem PM.lt {p b n : Nat} {D : DataW Unit} {st ak k a f was is : Int} {done : Bool} {w : World} (h : PM p b n D st ak k a f was is done w) : p < w.heap.size := (Array.getElem?_eq_some_iff.1 h.blk).1
theorem PM.ne {p b n : Nat} {D : DataW Unit} {st ak k a f was is : Int} {done : Bool} {w : World} (h : PM p b n D st ak k a f was is done w) : p ≠ b := by
  rintro rfl
  obtain ⟨es, clock, hb, _⟩ := h.own
  have := h.blk.symm.trans hb
  simp at this
theorem PM.below {p b n : Nat} {D : DataW Unit} {st ak k a f was is : Int} {done : Bool} {w w' : World} (h : PM p b n D st ak k a f was is done w) (hb : Below w.heap.size w w') : PM p b n D st ak k a f was is done w' := by
  refine ⟨(hb.block p h.lt).trans h.blk, ?_⟩
  have hlt := h.own.lt
  obtain ⟨es, clock, hbk, rest⟩ := h.own
  exact ⟨es, clock, (hb.block b hlt).trans hbk, rest⟩
theorem made_yes (p b : Nat) (w : World) (hp : w.cell? ⟨p, 0, none⟩ = some (.map (some b))) : Calls Tryz.prog 44 #[.pointer (some ⟨p, 0, none⟩)] w fun e w' => e = .returned (.bool true) ∧ w = w' := by
  have q := run_neq_map_nil (P := Tryz.prog) w 119 33 34 (some b) Tryz.underlying119
  go_enter Tryz.func44, Tryz.ntmps44
  go_wp2
  go_ret
  exact ⟨rfl, rfl⟩
end Go.Proofs.YtmjcbjcnmgleaaaGreatDoor
namespace Go.Proofs.YtmjcbjcnmgleaaaGreatDoor
open Go.ChangeShapes Go.WideShapes Go.ChangeAt Go.WideMaps Go.WideElems Go.RowKit Go.Joins
theorem core_plus (g o j : Nat) : (⟨g, o, Option.none⟩ : Addr).add j = ⟨g, o + j, Option.none⟩ := by unfold Addr.add; split <;> simp_all
def LayH (w : World) : Prop := Lay w ∧ LayM w
theorem own : ownKnob Tryz.prog.godebug = Option.none := by kernel_rfl
theorem laid_out : laidOutB Tryz.prog = true := by kernel_rfl
theorem gLayout : Tryz.prog.globalNamed "ragpicker/words.layout" = some 1 := by kernel_rfl
theorem tLayout : (Tryz.prog.globals[1]?).map (·.type) = some 205 := by kernel_rfl
theorem gRooms : Tryz.prog.globalNamed "ragpicker/mems.rooms" = some 0 := by kernel_rfl
theorem tRooms : (Tryz.prog.globals[0]?).map (·.type) = some 174 := by kernel_rfl
theorem cellsU8 : Tryz.prog.cellsOf 5 = 1 := by kernel_rfl
theorem cellsKD : Tryz.prog.cellsOf 31 = 1 := by kernel_rfl
theorem cellsI : Tryz.prog.cellsOf 3 = 1 := by kernel_rfl
theorem cellsU : Tryz.prog.cellsOf 34 = 1 := by kernel_rfl
theorem cellsAD : Tryz.prog.cellsOf 33 = 3 := by kernel_rfl
theorem cellsST : Tryz.prog.cellsOf 36 = 4 := by kernel_rfl
theorem cellsBI : Tryz.prog.cellsOf 204 = 2 := by kernel_rfl
theorem cellsRO : Tryz.prog.cellsOf 173 = 2 := by kernel_rfl
def laidL : List (String × DataW Unit) := [("ragpicker/mems.rooms", Rows.laid_ragpicker_mems_rooms), ("ragpicker/words.layout", Rows.laid_ragpicker_words_layout)]
theorem door_met (os : Os) (args : Array Value) : laidMetH Tryz.prog laidL ((World.doorLaid Tryz.prog 400 os).forCall (fun _ _ => 0) ⟨#[], args, []⟩).memory :=
  laidMetH_of_parts3 (fuel := 8) (laidMet_of_run' 8 (by kernel_rfl) (by kernel_rfl)) (by kernel_rfl) (by kernel_rfl)
set_option maxRecDepth 100000 in
theorem bits_cells {w : World} {base : Nat} {sp : Nat → Bool} {held : Bool} {fuel : Nat} {cs : List Value} {y : DataW Unit × List MemPlace} {a b : Int}
    (h : DataW.trod (fun _ => ()) Tryz.prog w base sp held fuel 204 cs = some y) (hy : y.1 = .agg [.lit (.int .u8 a), .lit (.int .u8 b)]) : cs = [.int .u8 a, .int .u8 b] := by
  obtain ⟨y0, y1, n, rfl, hl, h0, h1⟩ := trod_struct2 Tryz.underlying204 h
  rw [cellsBI] at hl
  obtain ⟨m0, e0, rfl, _⟩ := DataW.trod_int Tryz.underlying5 h0
  obtain ⟨m1, e1, rfl, _⟩ := DataW.trod_int Tryz.underlying5 h1
  simp only [cellsU8] at e0 e1
  match cs, hl with
  | [c0, c1], _ =>
    simp at e0 e1 hy
    obtain ⟨rfl, rfl⟩ := hy
    rw [e0, e1]
set_option maxRecDepth 100000 in
theorem room_cells {w : World} {base : Nat} {sp : Nat → Bool} {held : Bool} {fuel : Nat} {cs : List Value} {y : DataW Unit × List MemPlace} {a b : Int}
    (h : DataW.trod (fun _ => ()) Tryz.prog w base sp held fuel 173 cs = some y) (hy : y.1 = .agg [.lit (.int .i64 a), .lit (.int .i64 b)]) : cs = [.int .i64 a, .int .i64 b] := by
  obtain ⟨y0, y1, n, rfl, hl, h0, h1⟩ := trod_struct2 Tryz.underlying173 h
  rw [cellsRO] at hl
  obtain ⟨m0, e0, rfl, _⟩ := DataW.trod_int Tryz.underlying3 h0
  obtain ⟨m1, e1, rfl, _⟩ := DataW.trod_int Tryz.underlying3 h1
  simp only [cellsI] at e0 e1
  match cs, hl with
  | [c0, c1], _ =>
    simp at e0 e1 hy
    obtain ⟨rfl, rfl⟩ := hy
    rw [e0, e1]
set_option maxRecDepth 100000 in
theorem lay_of_laid {W : World} (h : laidMetH Tryz.prog laidL W) : LayH W := by
  rw [MakeChecks.laidMetH_plain _ _ _ (by kernel_rfl)] at h
  obtain ⟨ps, ⟨g0, t0, cs0, f0, p0, q0, hg0, ht0, hv0, hd0, ⟨g1, t1, cs1, f1, p1, q1, hg1, ht1, hv1, hd1, _, _⟩, _⟩, _⟩ := h
  obtain rfl := Option.some.inj (gRooms.symm.trans hg0)
  obtain rfl := Option.some.inj (tRooms.symm.trans ht0)
  obtain rfl := Option.some.inj (gLayout.symm.trans hg1)
  obtain rfl := Option.some.inj (tLayout.symm.trans ht1)
  refine ⟨?_, ?_⟩
  · have hc : ∀ k, W.cell? ⟨1, k, Option.none⟩ = cs1[k]? := fun k => World.var?_cell hg1 hv1 k
    obtain ⟨xs, m, rfl, hx, hlen, hn, hel⟩ := DataW.trod_array Tryz.underlying205 hd1
    have hp : ∀ (i : Nat) (a b : Int), ([(0, 16), (16, 32), (63, 1), (0, 16), (16, 48), (0, 3), (3, 32), (0, 3), (3, 3), (6, 3), (16, 48), (0, 32), (32, 1)] : List (Int × Int))[i]? = some (a, b) → cs1[i * 2]? = some (.int .u8 a) ∧ cs1[i * 2 + 1]? = some (.int .u8 b) := fun i a b hi => by
      have hi13 : i < 13 := by
        have := (List.getElem?_eq_some_iff.1 hi).1
        simpa using this
      have he := hel i hi13
      rw [cellsBI] at he
      simp only [Rows.laid_ragpicker_words_layout, Prod.mk.injEq, DataW.agg.injEq] at hx
      have hxi : (xs.map (·.1))[i]? = some (.agg [.lit (.int .u8 a), .lit (.int .u8 b)]) := by
        rw [← hx.1]
        have hm : (([(0, 16), (16, 32), (63, 1), (0, 16), (16, 48), (0, 3), (3, 32), (0, 3), (3, 3), (6, 3), (16, 48), (0, 32), (32, 1)] : List (Int × Int)).map (fun z => (DataW.agg [.lit (.int .u8 z.1), .lit (.int .u8 z.2)] : DataW Unit)))[i]? = some (.agg [.lit (.int .u8 a), .lit (.int .u8 b)]) := by
          rw [List.getElem?_map, hi]
          rfl
        exact hm
      rw [List.getElem?_map] at hxi
      obtain ⟨y, hy1, hy2⟩ := Option.map_eq_some_iff.1 hxi
      rw [hy1] at he
      have hp := bits_cells he hy2
      have k0 : ((cs1.toList.drop (i * 2)).take 2)[0]? = some (.int .u8 a) := by rw [hp]; rfl
      have k1 : ((cs1.toList.drop (i * 2)).take 2)[1]? = some (.int .u8 b) := by rw [hp]; rfl
      simp only [List.getElem?_take, List.getElem?_drop] at k0 k1
      exact ⟨by simpa using k0, by simpa using k1⟩
    have h0 : W.cell? ⟨1, 0, Option.none⟩ = some (.int .u8 0) := (hc 0).trans (hp 0 0 16 rfl).1
    refine ⟨World.block_lt_of_cell? W _ h0, ?_⟩
    intro k hk
    match k, hk with
    | 0, _ => exact (hc 0).trans (hp 0 0 16 rfl).1
    | 1, _ => exact (hc 1).trans (hp 0 0 16 rfl).2
    | 2, _ => exact (hc 2).trans (hp 1 16 32 rfl).1
    | 3, _ => exact (hc 3).trans (hp 1 16 32 rfl).2
    | 4, _ => exact (hc 4).trans (hp 2 63 1 rfl).1
    | 5, _ => exact (hc 5).trans (hp 2 63 1 rfl).2
    | 6, _ => exact (hc 6).trans (hp 3 0 16 rfl).1
    | 7, _ => exact (hc 7).trans (hp 3 0 16 rfl).2
    | 8, _ => exact (hc 8).trans (hp 4 16 48 rfl).1
    | 9, _ => exact (hc 9).trans (hp 4 16 48 rfl).2
    | 10, _ => exact (hc 10).trans (hp 5 0 3 rfl).1
    | 11, _ => exact (hc 11).trans (hp 5 0 3 rfl).2
    | 12, _ => exact (hc 12).trans (hp 6 3 32 rfl).1
    | 13, _ => exact (hc 13).trans (hp 6 3 32 rfl).2
    | 14, _ => exact (hc 14).trans (hp 7 0 3 rfl).1
    | 15, _ => exact (hc 15).trans (hp 7 0 3 rfl).2
    | 16, _ => exact (hc 16).trans (hp 8 3 3 rfl).1
    | 17, _ => exact (hc 17).trans (hp 8 3 3 rfl).2
    | 18, _ => exact (hc 18).trans (hp 9 6 3 rfl).1
    | 19, _ => exact (hc 19).trans (hp 9 6 3 rfl).2
    | 20, _ => exact (hc 20).trans (hp 10 16 48 rfl).1
    | 21, _ => exact (hc 21).trans (hp 10 16 48 rfl).2
    | 22, _ => exact (hc 22).trans (hp 11 0 32 rfl).1
    | 23, _ => exact (hc 23).trans (hp 11 0 32 rfl).2
    | 24, _ => exact (hc 24).trans (hp 12 32 1 rfl).1
    | 25, _ => exact (hc 25).trans (hp 12 32 1 rfl).2
    | n + 26, hn => exact absurd hn (by omega)
  · have hc : ∀ k, W.cell? ⟨0, k, Option.none⟩ = cs0[k]? := fun k => World.var?_cell hg0 hv0 k
    obtain ⟨xs, m, rfl, hx, hlen, hn, hel⟩ := DataW.trod_array Tryz.underlying174 hd0
    have hp : ∀ (i : Nat) (a b : Int), ([(1, 1), (1, 1), (1, 1), (1, 1), (1, 1), (1, 1), (32, 2), (4, 1), (16, 10), (256, 8), (9, 1), (1, 2)] : List (Int × Int))[i]? = some (a, b) → cs0[i * 2]? = some (.int .i64 a) ∧ cs0[i * 2 + 1]? = some (.int .i64 b) := fun i a b hi => by
      have hi13 : i < 12 := by
        have := (List.getElem?_eq_some_iff.1 hi).1
        simpa using this
      have he := hel i hi13
      rw [cellsRO] at he
      simp only [Rows.laid_ragpicker_mems_rooms, Prod.mk.injEq, DataW.agg.injEq] at hx
      have hxi : (xs.map (·.1))[i]? = some (.agg [.lit (.int .i64 a), .lit (.int .i64 b)]) := by
        rw [← hx.1]
        have hm : (([(1, 1), (1, 1), (1, 1), (1, 1), (1, 1), (1, 1), (32, 2), (4, 1), (16, 10), (256, 8), (9, 1), (1, 2)] : List (Int × Int)).map (fun z => (DataW.agg [.lit (.int .i64 z.1), .lit (.int .i64 z.2)] : DataW Unit)))[i]? = some (.agg [.lit (.int .i64 a), .lit (.int .i64 b)]) := by
          rw [List.getElem?_map, hi]
          rfl
        exact hm
      rw [List.getElem?_map] at hxi
      obtain ⟨y, hy1, hy2⟩ := Option.map_eq_some_iff.1 hxi
      rw [hy1] at he
      have hp := room_cells he hy2
      have k0 : ((cs0.toList.drop (i * 2)).take 2)[0]? = some (.int .i64 a) := by rw [hp]; rfl
      have k1 : ((cs0.toList.drop (i * 2)).take 2)[1]? = some (.int .i64 b) := by rw [hp]; rfl
      simp only [List.getElem?_take, List.getElem?_drop] at k0 k1
      exact ⟨by simpa using k0, by simpa using k1⟩
    have h0 : W.cell? ⟨0, 0, Option.none⟩ = some (.int .i64 1) := (hc 0).trans (hp 0 1 1 rfl).1
    refine ⟨World.block_lt_of_cell? W _ h0, ?_⟩
    intro k hk
    match k, hk with
    | 0, _ => exact ⟨(hc 0).trans (hp 0 1 1 rfl).1, (hc 1).trans (hp 0 1 1 rfl).2⟩
    | 1, _ => exact ⟨(hc 2).trans (hp 1 1 1 rfl).1, (hc 3).trans (hp 1 1 1 rfl).2⟩
    | 2, _ => exact ⟨(hc 4).trans (hp 2 1 1 rfl).1, (hc 5).trans (hp 2 1 1 rfl).2⟩
    | 3, _ => exact ⟨(hc 6).trans (hp 3 1 1 rfl).1, (hc 7).trans (hp 3 1 1 rfl).2⟩
    | 4, _ => exact ⟨(hc 8).trans (hp 4 1 1 rfl).1, (hc 9).trans (hp 4 1 1 rfl).2⟩
    | 5, _ => exact ⟨(hc 10).trans (hp 5 1 1 rfl).1, (hc 11).trans (hp 5 1 1 rfl).2⟩
    | 6, _ => exact ⟨(hc 12).trans (hp 6 32 2 rfl).1, (hc 13).trans (hp 6 32 2 rfl).2⟩
    | 7, _ => exact ⟨(hc 14).trans (hp 7 4 1 rfl).1, (hc 15).trans (hp 7 4 1 rfl).2⟩
    | 8, _ => exact ⟨(hc 16).trans (hp 8 16 10 rfl).1, (hc 17).trans (hp 8 16 10 rfl).2⟩
    | 9, _ => exact ⟨(hc 18).trans (hp 9 256 8 rfl).1, (hc 19).trans (hp 9 256 8 rfl).2⟩
    | 10, _ => exact ⟨(hc 20).trans (hp 10 9 1 rfl).1, (hc 21).trans (hp 10 9 1 rfl).2⟩
    | 11, _ => exact ⟨(hc 22).trans (hp 11 1 2 rfl).1, (hc 23).trans (hp 11 1 2 rfl).2⟩
    | n + 12, hn => exact absurd hn (by omega)
end Go.Proofs.YtmjcbjcnmgleaaaGreatDoor
