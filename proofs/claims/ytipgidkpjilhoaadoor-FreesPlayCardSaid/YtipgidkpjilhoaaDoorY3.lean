/-
  The program's operation beside both memories: what each of its steps does; condition: both memories lie as they say, the operation as it says.
  An operation and the document's, side by side: a step of the document's, then one of the program's; condition: both memories lie as they say and say the same, both operations as they say.
  What the law FreesPlay holds between two acts: both memories, the pair's box, the row of operations, each operation and the document's; condition: all lies as it says.
  What the law FreesPlay asks of a pair of memories, and of new operations; condition: all lies as it says.
-/
import Derived.Test.YtipgidkpjilhoaaDoorY1
import Derived.Test.YtipgidkpjilhoaaDoorF6
import Derived.Test.YtipgidkpjilhoaaDoorD11
import Derived.OwnWalk
import Derived.Laws.OwnMore
import Derived.Test.YtipgidkpjilhoaaDoorF7
import Derived.Maps.AppendAt
namespace Go.Proofs.YtipgidkpjilhoaaDoor
open Go.RowKit Go.Maps

section
variable {B p m b n q e : Nat} {t : TypeId} {nx h to : Int} {D : DataW Unit} {s r : Acc8} {L : List (Ad × Int)} {w w' : World}
theorem OpAt.ne_pr (o : OpAt t q nx h to w) (hP : Pr p m b n D s L r w) (ht : t = 62 ∨ t = 63) : q ≠ p ∧ q ≠ m ∧ q ≠ b := by
  obtain ⟨v, hr⟩ := hP.ref
  refine ⟨o.ne_p hP.prog (by rcases ht with rfl | rfl <;> decide), o.ne_b hP.prog, ?_⟩
  rintro rfl
  have := Eq.trans (Eq.symm o) hr.blk
  simp only [Option.some.injEq, Obj.cells.injEq] at this
  have h2 := this.2.1
  rcases ht with rfl | rfl <;> exact absurd h2 (by decide)
/-- A step of the program's: the document's memory stands. -/
theorem Pr.only3 (hP : Pr p m b n D s L r w) (o : OpAt t q nx h to w) (ht : t = 62 ∨ t = 63) (hBm : B ≤ m) (hBq : B ≤ q) (ho : Only3 p m q w w') {n' : Nat} {D' : DataW Unit} {s' : Acc8} (hp : PM p m n' D' s'.st s'.ak s'.k s'.a s'.f s'.was s'.is s'.done w') :
    Pr p m b n' D' s' L r w' ∧ Fx B p b q e w w' := by
  obtain ⟨e1, e2, e3⟩ := o.ne_pr hP ht
  have hmp := hP.mp
  have hpb := hP.pb
  obtain ⟨es, c, hm⟩ := hP.prog.map_at
  refine ⟨⟨hp, ?_, hmp, hpb⟩, ⟨ho.os, ho.tape, ho.output, ho.size, fun k hk => ho.block k (by have := hP.lt; omega) (by omega) (by omega) (by omega)⟩, fun x cs u fr hx _ h1 _ h3 _ => (ho.block x (Array.getElem?_eq_some_iff.1 hx).1 h1 (fun e => ?_) h3).trans hx⟩
  · obtain ⟨v, hr⟩ := hP.ref
    refine ⟨v, (ho.block b hr.size (by omega) (by omega) (Ne.symm e3)).trans hr.blk, ⟨hr.own.1, ?_⟩, hr.pos⟩
    rcases hr.own.2 with hn | ⟨g, cap, cur, hv, hB, hg, rest⟩
    · exact .inl hn
    · refine .inr ⟨g, cap, cur, hv, hB, (ho.block g (Array.getElem?_eq_some_iff.1 hg).1 (by omega) (by omega) fun e => ?_).trans hg, rest⟩
      subst e
      have := Eq.trans (Eq.symm o) hg
      simp only [Option.some.injEq, Obj.cells.injEq] at this
      have h2 := this.2.1
      rcases ht with rfl | rfl <;> exact absurd h2 (by decide)
  · subst e
    rw [hm] at hx
    cases hx
theorem got_under (hnx : nx ≠ 0) (o : OpAt 62 q nx h to w) : Calls Tryd.prog 19 #[.pointer (some ⟨q, 0, none⟩)] w fun ee w' => ee = .returned (.tuple #[.int .i64 0, .bool false]) ∧ w' = w := by
  have HO := Lib.hid o
  have hz : (nx == 0) = false := by simpa using hnx
  clear o hnx
  go_enter Tryd.func19, Tryd.ntmps19
  go_wp2_with (go_at_call 37; refine (over_any HO.out).mono ?_; rintro e w' ⟨rfl, rfl⟩)
  go_ret2
  exact ⟨rfl, rfl⟩
/-- What a step of the program's leaves. -/
def PStep (B p m b q e n' : Nat) (t : TypeId) (nx h to : Int) (D' : DataW Unit) (s' : Acc8) (L : List (Ad × Int)) (r : Acc8) (w : World) (ee : Ending) (w' : World) : Prop :=
  ee = .returned (.bool (nx == 0)) ∧ OpAt t q nx h to w' ∧ Pr p m b n' D' s' L r w' ∧ Fx B p b q e w w'
theorem prog_over_pop (o : OpAt 62 q 0 h to w) (hP : Pr p m b n D s L r w) (hBw : B ≤ w.heap.size) : Calls Tryd.prog 17 #[.pointer (some ⟨q, 0, none⟩), .pointer (some ⟨p, 0, none⟩)] w (PStep B p m b q e n 62 0 h to D s L r w) := by
  refine (popStep_over _ o).mono ?_
  rintro ee w' ⟨rfl, rfl⟩
  exact ⟨rfl, o, hP, .of_below (Below.refl _ _) hBw⟩
theorem prog_over_push (o : OpAt 63 q 0 h to w) (hP : Pr p m b n D s L r w) (hBw : B ≤ w.heap.size) : Calls Tryd.prog 15 #[.pointer (some ⟨q, 0, none⟩), .pointer (some ⟨p, 0, none⟩)] w (PStep B p m b q e n 63 0 h to D s L r w) := by
  refine (pushStep_over _ o).mono ?_
  rintro ee w' ⟨rfl, rfl⟩
  exact ⟨rfl, o, hP, .of_below (Below.refl _ _) hBw⟩
theorem prog_pop1 (hP : Pr p m b n D s L r w) (hBm : B ≤ m) (hBq : B ≤ q) (hB : 1 < B) (h0 : 0 ≤ s.st) (h1 : s.st < 1000000) (hl : Lay w) (o : OpAt 62 q 1 h to w) : Calls Tryd.prog 17 #[.pointer (some ⟨q, 0, none⟩), .pointer (some ⟨p, 0, none⟩)] w
    (PStep B p m b q e n 62 (if wSlot (valD D adF) < 0 then 0 else 2) (valD D adF) to D (s.touch 1 adF (valD D adF) (valD D adF) false) L r w) := by
  obtain ⟨e1, e2, e3⟩ := o.ne_pr hP (.inl rfl)
  have hmp := hP.mp
  refine (popStep_1 (b := m) (Post := fun Y => PM p m n D (s.st + 1) 1 0 0 0 (valD D adF) (valD D adF) false Y) o (fun X v hX => hX.setQ e1 e2 0 v) (fun X hX => start_any h0 (by omega) (hl.below hX) (by omega) (by omega) (by omega) (o.below hX) (hP.prog.below hX))).mono ?_
  rintro ee w' ⟨rfl, o', m', k⟩
  obtain ⟨g1, g2⟩ := hP.only3 (e := e) (s' := s.touch 1 adF (valD D adF) (valD D adF) false) o (.inl rfl) hBm hBq k m'
  exact ⟨rfl, o', g1, g2⟩
theorem prog_pop2 (hP : Pr p m b n D s L r w) (hBm : B ≤ m) (hBq : B ≤ q) (hB : 1 < B) (h0 : 0 ≤ s.st) (h1 : s.st < 1000000) (hl : Lay w) (hh : U64 h) (o : OpAt 62 q 2 h to w) : Calls Tryd.prog 17 #[.pointer (some ⟨q, 0, none⟩), .pointer (some ⟨p, 0, none⟩)] w
    (PStep B p m b q e n 62 3 h (wSlot (valD D (adL (wSlot h) (i64w_slot h)))) D (s.touch 1 (adL (wSlot h) (i64w_slot h)) (valD D (adL (wSlot h) (i64w_slot h))) (valD D (adL (wSlot h) (i64w_slot h))) false) L r w) := by
  obtain ⟨e1, e2, e3⟩ := o.ne_pr hP (.inl rfl)
  have hmp := hP.mp
  refine (popStep_2 (b := m) (Post := fun Y => PM p m n D (s.st + 1) 1 9 (wSlot h) 2 (valD D (adL (wSlot h) (i64w_slot h))) (valD D (adL (wSlot h) (i64w_slot h))) false Y) o (fun X v hX => hX.setQ e1 e2 0 v) (fun X hX => look_any h0 (by omega) (hl.below hX) (by omega) (by omega) (by omega) hh (o.below hX) (hP.prog.below hX))).mono ?_
  rintro ee w' ⟨rfl, o', m', k⟩
  obtain ⟨g1, g2⟩ := hP.only3 (e := e) (s' := s.touch 1 (adL (wSlot h) (i64w_slot h)) (valD D (adL (wSlot h) (i64w_slot h))) (valD D (adL (wSlot h) (i64w_slot h))) false) o (.inl rfl) hBm hBq k m'
  exact ⟨rfl, o', g1, g2⟩
theorem prog_push1 (hP : Pr p m b n D s L r w) (hBm : B ≤ m) (hBq : B ≤ q) (h0 : 0 ≤ s.st) (h1 : s.st < 1000000) (o : OpAt 63 q 1 h to w) : Calls Tryd.prog 15 #[.pointer (some ⟨q, 0, none⟩), .pointer (some ⟨p, 0, none⟩)] w
    (PStep B p m b q e n 63 2 (valD D adF) to D (s.touch 1 adF (valD D adF) (valD D adF) false) L r w) := by
  obtain ⟨e1, e2, e3⟩ := o.ne_pr hP (.inr rfl)
  refine (pushStep_1 (b := m) (Post := fun Y => PM p m n D (s.st + 1) 1 0 0 0 (valD D adF) (valD D adF) false Y) o (fun X v hX => hX.setQ e1 e2 0 v) (fun X hX => read_any (by decide) h0 (by omega) (o.below hX) (hP.prog.below hX))).mono ?_
  rintro ee w' ⟨rfl, o', m', k⟩
  obtain ⟨g1, g2⟩ := hP.only3 (e := e) (s' := s.touch 1 adF (valD D adF) (valD D adF) false) o (.inr rfl) hBm hBq k m'
  exact ⟨rfl, o', g1, g2⟩
theorem prog_push2 (hP : Pr p m b n D s L r w) (hBm : B ≤ m) (hBq : B ≤ q) (hB : 1 < B) (h0 : 0 ≤ s.st) (h1 : s.st < 1000000) (hn : n < 1000000) (hl : Lay w) (hlm : LayM w) (hh : U64 h) (hto : I64w to) (o : OpAt 63 q 2 h to w) : Calls Tryd.prog 15 #[.pointer (some ⟨q, 0, none⟩), .pointer (some ⟨p, 0, none⟩)] w
    (PStep B p m b q e (n + 1) 63 3 h to (storeD D (adL to hto) (headW (wSlot h) 0)) (s.touch 2 (adL to hto) (valD D (adL to hto)) (valD (storeD D (adL to hto) (headW (wSlot h) 0)) (adL to hto)) false) L r w) := by
  obtain ⟨e1, e2, e3⟩ := o.ne_pr hP (.inr rfl)
  have hmp := hP.mp
  refine (pushStep_2 (b := m) (Post := fun Y => PM p m (n + 1) (storeD D (adL to hto) (headW (wSlot h) 0)) (s.st + 1) 2 9 to 2 (valD D (adL to hto)) (valD (storeD D (adL to hto) (headW (wSlot h) 0)) (adL to hto)) false Y) o (fun X v hX => hX.setQ e1 e2 0 v) (fun X hX => hang_any h0 (by omega) (by omega) (hl.below hX) (hlm.below hX) (by omega) (by omega) hh hto (o.below hX) (hP.prog.below hX))).mono ?_
  rintro ee w' ⟨rfl, o', m', k⟩
  obtain ⟨g1, g2⟩ := hP.only3 (e := e) (s' := s.touch 2 (adL to hto) (valD D (adL to hto)) (valD (storeD D (adL to hto) (headW (wSlot h) 0)) (adL to hto)) false) o (.inr rfl) hBm hBq k m'
  exact ⟨rfl, o', g1, g2⟩
theorem prog_pop3 (hP : Pr p m b n D s L r w) (hBm : B ≤ m) (hBq : B ≤ q) (h0 : 0 ≤ s.st) (h1 : s.st < 1000000) (hn : n < 1000000) (hl : Lay w) (hlm : LayM w) (hh : U64 h) (o : OpAt 62 q 3 h to w) : Calls Tryd.prog 17 #[.pointer (some ⟨q, 0, none⟩), .pointer (some ⟨p, 0, none⟩)] w
    (PStep B p m b q e (n + 1) 62 (if casB D adF h = true then 0 else 1) h to (casD D adF h (nextW h to)) (s.touch 3 adF (valD D adF) (valD (casD D adF h (nextW h to)) adF) (casB D adF h)) L r w) := by
  obtain ⟨e1, e2, e3⟩ := o.ne_pr hP (.inl rfl)
  refine (popStep_3 (b := m) (Post := fun Y => PM p m (n + 1) (casD D adF h (nextW h to)) (s.st + 1) 3 0 0 0 (valD D adF) (valD (casD D adF h (nextW h to)) adF) (casB D adF h) Y) o (fun X v hX => hX.setQ e1 e2 0 v) (fun X hX => swap_any (by decide) h0 (by omega) (by omega) (hl.below hX) (hlm.below hX) hh (o.below hX) (hP.prog.below hX))).mono ?_
  rintro ee w' ⟨rfl, o', m', k⟩
  obtain ⟨g1, g2⟩ := hP.only3 (e := e) (s' := s.touch 3 adF (valD D adF) (valD (casD D adF h (nextW h to)) adF) (casB D adF h)) o (.inl rfl) hBm hBq k m'
  exact ⟨rfl, o', g1, g2⟩
theorem prog_push3 (hP : Pr p m b n D s L r w) (hBm : B ≤ m) (hBq : B ≤ q) (h0 : 0 ≤ s.st) (h1 : s.st < 1000000) (hn : n < 1000000) (hl : Lay w) (hlm : LayM w) (hh : U64 h) (o : OpAt 63 q 3 h to w) : Calls Tryd.prog 15 #[.pointer (some ⟨q, 0, none⟩), .pointer (some ⟨p, 0, none⟩)] w
    (PStep B p m b q e (n + 1) 63 (if casB D adF h = true then 0 else 1) h to (casD D adF h (nextW h to)) (s.touch 3 adF (valD D adF) (valD (casD D adF h (nextW h to)) adF) (casB D adF h)) L r w) := by
  obtain ⟨e1, e2, e3⟩ := o.ne_pr hP (.inr rfl)
  refine (pushStep_3 (b := m) (Post := fun Y => PM p m (n + 1) (casD D adF h (nextW h to)) (s.st + 1) 3 0 0 0 (valD D adF) (valD (casD D adF h (nextW h to)) adF) (casB D adF h) Y) o (fun X v hX => hX.setQ e1 e2 0 v) (fun X hX => swap_any (by decide) h0 (by omega) (by omega) (hl.below hX) (hlm.below hX) hh (o.below hX) (hP.prog.below hX))).mono ?_
  rintro ee w' ⟨rfl, o', m', k⟩
  obtain ⟨g1, g2⟩ := hP.only3 (e := e) (s' := s.touch 3 adF (valD D adF) (valD (casD D adF h (nextW h to)) adF) (casB D adF h)) o (.inr rfl) hBm hBq k m'
  exact ⟨rfl, o', g1, g2⟩
/-- The document's operation, when it is over, does nothing. -/
theorem ref0_any {psh got : Bool} {sl nn : Int} (hu : U64 h) (R : RefAt e psh sl 0 got h nn w) : Calls Tryd.prog 14 #[.pointer (some ⟨e, 0, none⟩), .pointer (some ⟨b, 0, none⟩)] w fun ee w' => ee = .returned (.tuple #[]) ∧ Below w.heap.size w w' := by
  have hA : Below w.heap.size w (w.alloc (.cells #[.int .u8 0, .int .i64 0, .int .i64 0] 33)) := (Below.refl _ _).alloc (Nat.le_refl _) _
  obtain ⟨l0, l1, l2, lb⟩ := list_cells w
  have HA := Lib.hid hA
  obtain ⟨c0, c1, c2, c3, c4, c5, cf⟩ := (R.below hA).cells
  clear R hA lb cf
  go_enter Tryd.func14, Tryd.ntmps14
  go_wp2_with fail
  ((with_reducible refine (asHead10_any h _ hu).mono ?_); rintro ee w1 ⟨rfl, rfl⟩)
  go_wp2_with fail
  go_end0
  exact ⟨rfl, HA.out⟩
end
end Go.Proofs.YtipgidkpjilhoaaDoor
namespace Go.Proofs.YtipgidkpjilhoaaDoor
open Go.RowKit Go.Maps

/-- A Pop and the document's say the same. -/
def PopOk (nx h to sl : Int) (got : Bool) (nn : Int) : Prop := U64 h ∧ U64 nn ∧
  ((nx = 1 ∧ got = false) ∨ (nx = 2 ∧ got = false ∧ 0 ≤ wSlot h) ∨ (nx = 3 ∧ got = false ∧ 0 ≤ wSlot h ∧ to = wSlot nn) ∨ (nx = 0 ∧ got = false ∧ wSlot h < 0) ∨ (nx = 0 ∧ got = true ∧ 0 ≤ wSlot h ∧ sl = wSlot h))
/-- A Push and the document's say the same. -/
def PushOk (nx h to sl : Int) (got : Bool) (nn : Int) : Prop := U64 h ∧ U64 nn ∧ got = false ∧ I64w to ∧ sl = to ∧ 0 ≤ nx ∧ nx ≤ 3
/-- Both have taken the step: the document's first. -/
def JMid (B p m b q e c : Nat) (fn : FuncId) (t : TypeId) (psh : Bool) (Ok : Int → Int → Int → Int → Bool → Int → Prop) (w : World) (ee : Ending) (w1 : World) : Prop :=
  ee = .returned (.tuple #[]) ∧ Fx B p b q e w w1 ∧ ∃ nx h to sl got nn, Ok nx h to sl got nn ∧ RefAt e psh sl nx got h nn w1 ∧
    Calls Tryd.prog fn #[.pointer (some ⟨q, 0, none⟩), .pointer (some ⟨p, 0, none⟩)] w1 fun ee w2 => ee = .returned (.bool (nx == 0)) ∧ Fx B p b q e w1 w2 ∧ Both p m b (c + 1) w2 ∧ OpAt t q nx h to w2 ∧ RefAt e psh sl nx got h nn w2
section
variable {B p m b n q e c : Nat} {t : TypeId} {nx h to sl nn : Int} {psh got : Bool} {D : DataW Unit} {s r : Acc8} {L : List (Ad × Int)} {w w' : World}
theorem Fx.toQ (f : Fx B p b p e w w') : Fx B p b q e w w' := ⟨f.low, fun x cs t fr hx ht h1 h2 _ h4 => f.far x cs t fr hx ht h1 h2 h1 h4⟩
theorem Fx.toE (f : Fx B p b q p w w') : Fx B p b q e w w' := ⟨f.low, fun x cs t fr hx ht h1 h2 h3 _ => f.far x cs t fr hx ht h1 h2 h3 h1⟩
theorem RefAt.ne_pr (R : RefAt e psh sl nx got h nn w) (hP : Pr p m b n D s L r w) : e ≠ p ∧ e ≠ b := by
  obtain ⟨v, hr⟩ := hP.ref
  constructor
  · rintro rfl
    have := hP.prog.blk.symm.trans R
    simp at this
  · rintro rfl
    have := hr.blk.symm.trans R
    simp [rest8] at this
theorem RefAt.ne_op {nx' h' to' : Int} (R : RefAt e psh sl nx got h nn w) (o : OpAt t q nx' h' to' w) (ht : t = 62 ∨ t = 63) : q ≠ e := by
  rintro rfl
  have := Eq.trans (Eq.symm o) R
  simp only [Option.some.injEq, Obj.cells.injEq] at this
  have h2 := this.2.1
  rcases ht with rfl | rfl <;> exact absurd h2 (by decide)
theorem RefAt.fx (R : RefAt e psh sl nx got h nn w) (f : Fx B p b q p w w') (hp : e ≠ p) (hb : e ≠ b) (hq : q ≠ e) : RefAt e psh sl nx got h nn w' := f.far e _ _ _ R (by decide) hp hb (Ne.symm hq) hp
theorem OpAt.fx (o : OpAt t q nx h to w) (f : Fx B p b p e w w') (ht : t = 62 ∨ t = 63) (hp : q ≠ p) (hb : q ≠ b) (hq : q ≠ e) : OpAt t q nx h to w' := f.far q _ _ _ o (by rcases ht with rfl | rfl <;> decide) hp hb hp hq

theorem pop_joint (hB : 1 < B) (hBm : B ≤ m) (hBq : B ≤ q) (hBe : B ≤ e) (hc : c ≤ 900) (hb : Both p m b c w) (hl : Lay w) (hlm : LayM w) (o : OpAt 62 q nx h to w) (R : RefAt e false sl nx got h nn w) (ok : PopOk nx h to sl got nn) :
    Calls Tryd.prog 14 #[.pointer (some ⟨e, 0, none⟩), .pointer (some ⟨b, 0, none⟩)] w (JMid B p m b q e c 17 62 false PopOk w) := by
  obtain ⟨n, D, s, L, hP, hr, hL, hn, h0, h1⟩ := hb
  obtain ⟨hu, hun, ok⟩ := ok
  obtain ⟨hep, heb⟩ := R.ne_pr hP
  obtain ⟨hqp, hqm, hqb⟩ := o.ne_pr hP (.inl rfl)
  have hqe := R.ne_op o (.inl rfl)
  have hBw : B ≤ w.heap.size := Nat.le_trans hBe (Nat.le_of_lt R.lt)
  rcases ok with ⟨rfl, rfl⟩ | ⟨rfl, rfl, hs⟩ | ⟨rfl, rfl, hs, rfl⟩ | ⟨rfl, rfl, hs⟩ | ⟨rfl, rfl, hs, hsl⟩
  · refine (ref1_to (q := p) (ln' := if wSlot (vals L adF) < 0 then 0 else 2) hBm hBe hep heb hP hr R hu rfl (by simp) (by omega) h0 (by omega)).mono ?_
    rintro ee w1 ⟨rfl, R1, P1, f1⟩
    have hp := prog_pop1 (e := p) P1 hBm hBq hB h0 (by omega) (f1.lay hB hl) (o.fx f1 (.inl rfl) hqp hqb hqe)
    rw [hr.val] at hp
    refine ⟨rfl, f1.toQ, _, _, to, sl, false, nn, ⟨P1.val_u64 hr adF, hun, ?_⟩, R1, hp.mono ?_⟩
    · by_cases hs : wSlot (vals L adF) < 0
      · rw [if_pos hs]; exact .inr (.inr (.inr (.inl ⟨rfl, rfl, hs⟩)))
      · rw [if_neg hs]; exact .inr (.inl ⟨rfl, rfl, by omega⟩)
    · rintro ee w2 ⟨rfl, o2, P2, f2⟩
      exact ⟨rfl, f2.toE, ⟨n, D, _, L, P2, hr, by omega, by omega, by show 0 ≤ s.st + 1; omega, by show s.st + 1 ≤ _; omega⟩, o2, R1.fx f2 hep heb hqe⟩
  · refine (ref2_pop (q := p) hBm hBe hep heb hP R hu rfl (by omega) h0 (by omega)).mono ?_
    rintro ee w1 ⟨rfl, R1, P1, f1⟩
    have hp := prog_pop2 (e := p) P1 hBm hBq hB h0 (by omega) (f1.lay hB hl) hu (o.fx f1 (.inl rfl) hqp hqb hqe)
    rw [hr.val] at hp
    refine ⟨rfl, f1.toQ, _, _, _, sl, false, _, ⟨hu, P1.val_u64 hr _, .inr (.inr (.inl ⟨rfl, rfl, hs, rfl⟩))⟩, R1, hp.mono ?_⟩
    rintro ee w2 ⟨rfl, o2, P2, f2⟩
    exact ⟨rfl, f2.toE, ⟨n, D, _, L, P2, hr, by omega, by omega, by show 0 ≤ s.st + 1; omega, by show s.st + 1 ≤ _; omega⟩, o2, R1.fx f2 hep heb hqe⟩
  · have hlen := casL_len L adF h (nextW h (wSlot nn))
    by_cases hcs : casA L adF h = true
    · refine (ref3_pop_yes (q := p) hBm hBe hep heb hP R hu hcs hun (by omega) h0 (by omega)).mono ?_
      rintro ee w1 ⟨rfl, R1, P1, f1⟩
      have hp := prog_pop3 (e := p) P1 hBm hBq h0 (by omega) (by omega) (f1.lay hB hl) (f1.laym hB hlm) hu (o.fx f1 (.inl rfl) hqp hqb hqe)
      rw [hr.casB, if_pos hcs, hr.val, (hr.cas adF h (nextW h (wSlot nn))).val, hcs] at hp
      refine ⟨rfl, f1.toQ, _, _, wSlot nn, _, _, _, ⟨hu, hun, .inr (.inr (.inr (.inr ⟨rfl, rfl, hs, rfl⟩)))⟩, R1, hp.mono ?_⟩
      rintro ee w2 ⟨rfl, o2, P2, f2⟩
      exact ⟨rfl, f2.toE, ⟨_, _, _, _, P2, hr.cas adF h (nextW h (wSlot nn)), by omega, by omega, by show 0 ≤ s.st + 1; omega, by show s.st + 1 ≤ _; omega⟩, o2, R1.fx f2 hep heb hqe⟩
    · have hcf : casA L adF h = false := by simpa using hcs
      refine (ref3_pop_no (q := p) hBm hBe hep heb hP R hu hcf hun (by omega) h0 (by omega)).mono ?_
      rintro ee w1 ⟨rfl, R1, P1, f1⟩
      have hp := prog_pop3 (e := p) P1 hBm hBq h0 (by omega) (by omega) (f1.lay hB hl) (f1.laym hB hlm) hu (o.fx f1 (.inl rfl) hqp hqb hqe)
      rw [hr.casB, if_neg hcs, hr.val, (hr.cas adF h (nextW h (wSlot nn))).val, hcf] at hp
      refine ⟨rfl, f1.toQ, _, _, wSlot nn, _, _, _, ⟨hu, hun, .inl ⟨rfl, rfl⟩⟩, R1, hp.mono ?_⟩
      rintro ee w2 ⟨rfl, o2, P2, f2⟩
      exact ⟨rfl, f2.toE, ⟨_, _, _, _, P2, hr.cas adF h (nextW h (wSlot nn)), by omega, by omega, by show 0 ≤ s.st + 1; omega, by show s.st + 1 ≤ _; omega⟩, o2, R1.fx f2 hep heb hqe⟩
  · refine (ref0_any hu R).mono ?_
    rintro ee w1 ⟨rfl, hb1⟩
    refine ⟨rfl, .of_below hb1 hBw, _, _, to, _, _, _, ⟨hu, hun, .inr (.inr (.inr (.inl ⟨rfl, rfl, hs⟩)))⟩, R.below hb1, (prog_over_pop (e := p) (o.below hb1) (hP.below hb1) (Nat.le_trans hBw hb1.size)).mono ?_⟩
    rintro ee w2 ⟨rfl, o2, P2, f2⟩
    exact ⟨rfl, f2.toE, ⟨_, _, _, _, P2, hr, by omega, by omega, h0, by omega⟩, o2, (R.below hb1).fx f2 hep heb hqe⟩
  · refine (ref0_any hu R).mono ?_
    rintro ee w1 ⟨rfl, hb1⟩
    refine ⟨rfl, .of_below hb1 hBw, _, _, to, _, _, _, ⟨hu, hun, .inr (.inr (.inr (.inr ⟨rfl, rfl, hs, hsl⟩)))⟩, R.below hb1, (prog_over_pop (e := p) (o.below hb1) (hP.below hb1) (Nat.le_trans hBw hb1.size)).mono ?_⟩
    rintro ee w2 ⟨rfl, o2, P2, f2⟩
    exact ⟨rfl, f2.toE, ⟨_, _, _, _, P2, hr, by omega, by omega, h0, by omega⟩, o2, (R.below hb1).fx f2 hep heb hqe⟩
theorem push_joint (hB : 1 < B) (hBm : B ≤ m) (hBq : B ≤ q) (hBe : B ≤ e) (hc : c ≤ 900) (hb : Both p m b c w) (hl : Lay w) (hlm : LayM w) (o : OpAt 63 q nx h to w) (R : RefAt e true sl nx got h nn w) (ok : PushOk nx h to sl got nn) :
    Calls Tryd.prog 14 #[.pointer (some ⟨e, 0, none⟩), .pointer (some ⟨b, 0, none⟩)] w (JMid B p m b q e c 15 63 true PushOk w) := by
  obtain ⟨n, D, s, L, hP, hr, hL, hn, h0, h1⟩ := hb
  obtain ⟨hu, hun, rfl, hto, rfl, hn0, hn3⟩ := ok
  obtain ⟨hep, heb⟩ := R.ne_pr hP
  obtain ⟨hqp, hqm, hqb⟩ := o.ne_pr hP (.inr rfl)
  have hqe := R.ne_op o (.inr rfl)
  have hBw : B ≤ w.heap.size := Nat.le_trans hBe (Nat.le_of_lt R.lt)
  obtain rfl | rfl | rfl | rfl : nx = 1 ∨ nx = 2 ∨ nx = 3 ∨ nx = 0 := by omega
  · refine (ref1_to (q := p) (ln' := 2) hBm hBe hep heb hP hr R hu rfl (by simp) (by omega) h0 (by omega)).mono ?_
    rintro ee w1 ⟨rfl, R1, P1, f1⟩
    have hp := prog_push1 (e := p) P1 hBm hBq h0 (by omega) (o.fx f1 (.inr rfl) hqp hqb hqe)
    rw [hr.val] at hp
    refine ⟨rfl, f1.toQ, _, _, sl, sl, false, nn, ⟨P1.val_u64 hr adF, hun, rfl, hto, rfl, by decide, by decide⟩, R1, hp.mono ?_⟩
    rintro ee w2 ⟨rfl, o2, P2, f2⟩
    exact ⟨rfl, f2.toE, ⟨n, D, _, L, P2, hr, by omega, by omega, by show 0 ≤ s.st + 1; omega, by show s.st + 1 ≤ _; omega⟩, o2, R1.fx f2 hep heb hqe⟩
  · have hlen := storeA_len L (adL sl hto) (headW (wSlot h) 0)
    refine (ref2_push (q := p) hBm hBe hep heb hP R hu hto (by omega) h0 (by omega)).mono ?_
    rintro ee w1 ⟨rfl, R1, P1, f1⟩
    have hp := prog_push2 (e := p) P1 hBm hBq hB h0 (by omega) (by omega) (f1.lay hB hl) (f1.laym hB hlm) hu hto (o.fx f1 (.inr rfl) hqp hqb hqe)
    rw [hr.val, (hr.store (adL sl hto) (headW (wSlot h) 0)).val] at hp
    refine ⟨rfl, f1.toQ, _, _, _, sl, false, _, ⟨hu, hun, rfl, hto, rfl, by decide, by decide⟩, R1, hp.mono ?_⟩
    rintro ee w2 ⟨rfl, o2, P2, f2⟩
    exact ⟨rfl, f2.toE, ⟨_, _, _, _, P2, hr.store (adL sl hto) (headW (wSlot h) 0), by omega, by omega, by show 0 ≤ s.st + 1; omega, by show s.st + 1 ≤ _; omega⟩, o2, R1.fx f2 hep heb hqe⟩
  · have hlen := casL_len L adF h (nextW h sl)
    by_cases hcs : casA L adF h = true
    · refine (ref3_push_yes (q := p) hBm hBe hep heb hP R hu hcs (by omega) h0 (by omega)).mono ?_
      rintro ee w1 ⟨rfl, R1, P1, f1⟩
      have hp := prog_push3 (e := p) P1 hBm hBq h0 (by omega) (by omega) (f1.lay hB hl) (f1.laym hB hlm) hu (o.fx f1 (.inr rfl) hqp hqb hqe)
      rw [hr.casB, if_pos hcs, hr.val, (hr.cas adF h (nextW h sl)).val, hcs] at hp
      refine ⟨rfl, f1.toQ, _, _, sl, _, _, _, ⟨hu, hun, rfl, hto, rfl, by decide, by decide⟩, R1, hp.mono ?_⟩
      rintro ee w2 ⟨rfl, o2, P2, f2⟩
      exact ⟨rfl, f2.toE, ⟨_, _, _, _, P2, hr.cas adF h (nextW h sl), by omega, by omega, by show 0 ≤ s.st + 1; omega, by show s.st + 1 ≤ _; omega⟩, o2, R1.fx f2 hep heb hqe⟩
    · have hcf : casA L adF h = false := by simpa using hcs
      refine (ref3_push_no (q := p) hBm hBe hep heb hP R hu hcf (by omega) h0 (by omega)).mono ?_
      rintro ee w1 ⟨rfl, R1, P1, f1⟩
      have hp := prog_push3 (e := p) P1 hBm hBq h0 (by omega) (by omega) (f1.lay hB hl) (f1.laym hB hlm) hu (o.fx f1 (.inr rfl) hqp hqb hqe)
      rw [hr.casB, if_neg hcs, hr.val, (hr.cas adF h (nextW h sl)).val, hcf] at hp
      refine ⟨rfl, f1.toQ, _, _, sl, _, _, _, ⟨hu, hun, rfl, hto, rfl, by decide, by decide⟩, R1, hp.mono ?_⟩
      rintro ee w2 ⟨rfl, o2, P2, f2⟩
      exact ⟨rfl, f2.toE, ⟨_, _, _, _, P2, hr.cas adF h (nextW h sl), by omega, by omega, by show 0 ≤ s.st + 1; omega, by show s.st + 1 ≤ _; omega⟩, o2, R1.fx f2 hep heb hqe⟩
  · refine (ref0_any hu R).mono ?_
    rintro ee w1 ⟨rfl, hb1⟩
    refine ⟨rfl, .of_below hb1 hBw, _, _, sl, _, _, _, ⟨hu, hun, rfl, hto, rfl, by decide, by decide⟩, R.below hb1, (prog_over_push (e := p) (o.below hb1) (hP.below hb1) (Nat.le_trans hBw hb1.size)).mono ?_⟩
    rintro ee w2 ⟨rfl, o2, P2, f2⟩
    exact ⟨rfl, f2.toE, ⟨_, _, _, _, P2, hr, by omega, by omega, h0, by omega⟩, o2, (R.below hb1).fx f2 hep heb hqe⟩
end
end Go.Proofs.YtipgidkpjilhoaaDoor
namespace Go.Proofs.YtipgidkpjilhoaaDoor
open Go.RowKit Go.Maps

/-- An operation of the law's: a Push or a Pop, its block, the document's. -/
structure JP where
  psh : Bool
  q : Nat
  e : Nat
def popV : Bool → Nat → Value
  | true, _ => .pointer none
  | false, q => .pointer (some ⟨q, 0, none⟩)
def pushV : Bool → Nat → Value
  | true, q => .pointer (some ⟨q, 0, none⟩)
  | false, _ => .pointer none
def JP.cells (x : JP) : List Value := [popV x.psh x.q, pushV x.psh x.q, .pointer (some ⟨x.e, 0, none⟩)]
def flatJ (l : List JP) : List Value := l.flatMap JP.cells
theorem flatJ_len (l : List JP) : (flatJ l).length = l.length * 3 := by
  induction l with
  | nil => rfl
  | cons x r ih => simp only [flatJ, List.flatMap_cons, List.length_append, List.length_cons] at ih ⊢; rw [ih]; simp [JP.cells]; omega
theorem flatJ_at (x0 : JP) (l : List JP) : ∀ i j : Nat, i < l.length → j < 3 → (flatJ l)[i * 3 + j]? = (l.getD i x0).cells[j]? := by
  induction l with
  | nil => intro i j hi; simp at hi
  | cons x r ih =>
    intro i j hi hj
    cases i with
    | zero =>
      simp only [flatJ, List.flatMap_cons, Nat.zero_mul, Nat.zero_add, List.getD_cons_zero]
      rw [List.getElem?_append_left (by simpa [JP.cells] using hj)]
    | succ i =>
      have h := ih i j (by simpa using hi) hj
      simp only [flatJ, List.flatMap_cons, List.getD_cons_succ] at h ⊢
      rw [List.getElem?_append_right (by simp [JP.cells]; omega), ← h]
      congr 1
      simp [JP.cells]
      omega
theorem flatJ_push (l : List JP) (x : JP) : flatJ (l ++ [x]) = flatJ l ++ x.cells := by simp [flatJ]
theorem cellsJ_one (x : JP) : ∀ u ∈ x.cells, u.oneCell' = true := by
  intro u hu
  obtain ⟨psh, q, e⟩ := x
  cases psh <;> simp [JP.cells, popV, pushV] at hu <;> rcases hu with rfl | rfl | rfl <;> rfl
/-- An operation and the document's lie, and say the same. -/
def JAt (x : JP) (w : World) : Prop := ∃ nx h to sl got nn, RefAt x.e x.psh sl nx got h nn w ∧
  match x.psh with
  | false => OpAt 62 x.q nx h to w ∧ PopOk nx h to sl got nn
  | true => OpAt 63 x.q nx h to w ∧ PushOk nx h to sl got nn
/-- Between two acts. -/
structure PS (W : World) (p m b T0 c : Nat) (rows : List JP) (v : Value) (w : World) : Prop where
  both : Both p m b c w
  lay : Lay w
  laym : LayM w
  low : Below W.heap.size W w
  mW : W.heap.size ≤ m
  box : w.heap[T0]? = some (.cells #[.pointer (some ⟨p, 0, none⟩), .pointer (some ⟨b, 0, none⟩)] 28 (0, 0))
  row : w.ownsRow W.heap.size 45 3 v rows.length (flatJ rows)
  ops : ∀ x ∈ rows, JAt x w ∧ W.heap.size ≤ x.q ∧ W.heap.size ≤ x.e
  ndq : (rows.map JP.q).Nodup
  nde : (rows.map JP.e).Nodup

theorem map_inj {α : Type} {f : α → Nat} : ∀ {l : List α}, (l.map f).Nodup → ∀ {x y}, x ∈ l → y ∈ l → f x = f y → x = y := by
  intro l
  induction l with
  | nil => intro _ x y hx; simp at hx
  | cons a r ih =>
    intro hn x y hx hy he
    rw [List.map_cons, List.nodup_cons] at hn
    rcases List.mem_cons.1 hx with rfl | hx
    · rcases List.mem_cons.1 hy with rfl | hy
      · rfl
      · exact absurd (he ▸ List.mem_map_of_mem hy) hn.1
    · rcases List.mem_cons.1 hy with hya | hy
      · exact absurd (by rw [← hya, ← he]; exact List.mem_map_of_mem hx) hn.1
      · exact ih hn.2 hx hy he
section
variable {W : World} {p m b T0 c c' : Nat} {rows : List JP} {v : Value} {w w' : World} {x y : JP}
/-- Where an operation lies. -/
theorem JAt.objs (h : JAt x w) : (∃ cs t, (t = 62 ∨ t = 63) ∧ w.heap[x.q]? = some (.cells cs t (0, 0))) ∧ ∃ cs, w.heap[x.e]? = some (.cells cs 52 (0, 0)) := by
  obtain ⟨nx, h, to, sl, got, nn, R, o⟩ := h
  refine ⟨?_, _, R⟩
  split at o
  · exact ⟨_, 62, .inl rfl, o.1⟩
  · exact ⟨_, 63, .inr rfl, o.1⟩
theorem JAt.keep (h : JAt x w) (hq : w'.heap[x.q]? = w.heap[x.q]?) (he : w'.heap[x.e]? = w.heap[x.e]?) : JAt x w' := by
  obtain ⟨nx, h, to, sl, got, nn, R, o⟩ := h
  refine ⟨nx, h, to, sl, got, nn, R.same he, ?_⟩
  split at o
  · exact ⟨o.1.same hq, o.2⟩
  · exact ⟨o.1.same hq, o.2⟩
theorem Both.parts (h : Both p m b c w) : (∃ cs, w.heap[p]? = some (.cells cs 107 (0, 0))) ∧ (∃ cs, w.heap[b]? = some (.cells cs 89 (0, 0))) ∧ (∃ es k, w.heap[m]? = some (.map es k)) ∧ m < p ∧ p < b ∧ b < w.heap.size := by
  obtain ⟨n, D, s, L, hP, _⟩ := h
  obtain ⟨u, hr⟩ := hP.ref
  exact ⟨⟨_, hP.prog.blk⟩, ⟨_, hr.blk⟩, hP.prog.map_at, hP.mp, hP.pb, hP.lt⟩
theorem Both.below (h : Both p m b c w) (hb : Below w.heap.size w w') : Both p m b c w' := by
  obtain ⟨n, D, s, L, hP, h2⟩ := h
  exact ⟨n, D, s, L, hP.below hb, h2⟩
theorem Both.mono (h : Both p m b c w) (hc : c ≤ c') : Both p m b c' w := by
  obtain ⟨n, D, s, L, hP, hr, h2, h3, h4, h5⟩ := h
  exact ⟨n, D, s, L, hP, hr, by omega, by omega, h4, by omega⟩
theorem blk_ne {z z' : Nat} {cs cs' : Array Value} {t t' : TypeId} (h : w.heap[z]? = some (.cells cs t (0, 0))) (h' : w.heap[z']? = some (.cells cs' t' (0, 0))) (ht : t ≠ t') : z ≠ z' := by
  rintro rfl
  have := h.symm.trans h'
  simp only [Option.some.injEq, Obj.cells.injEq] at this
  exact ht this.2.1
theorem PS.below (P : PS W p m b T0 c rows v w) (hb : Below w.heap.size w w') : PS W p m b T0 c rows v w' := by
  have k : ∀ {z : Nat} {o : Obj}, w.heap[z]? = some o → w'.heap[z]? = some o := fun {z _} hc => (hb.block z (Array.getElem?_eq_some_iff.1 hc).1).trans hc
  refine ⟨P.both.below hb, P.lay.below hb, P.laym.below hb, P.low.trans (hb.mono P.low.size), P.mW, k P.box, ⟨P.row.1, ?_⟩, fun x hx => ?_, P.ndq, P.nde⟩
  · rcases P.row.2 with h2 | ⟨g, cap, cur, hv, hg, hh, r⟩
    · exact .inl h2
    · exact .inr ⟨g, cap, cur, hv, hg, k hh, r⟩
  · obtain ⟨J, h1, h2⟩ := P.ops x hx
    obtain ⟨⟨cs, t, _, hq⟩, cs', he⟩ := J.objs
    exact ⟨J.keep ((k hq).trans hq.symm) ((k he).trans he.symm), h1, h2⟩
theorem PS.mono (P : PS W p m b T0 c rows v w) (hc : c ≤ c') : PS W p m b T0 c' rows v w := ⟨P.both.mono hc, P.lay, P.laym, P.low, P.mW, P.box, P.row, P.ops, P.ndq, P.nde⟩
/-- A step of one of them. -/
theorem PS.fx (P : PS W p m b T0 c rows v w) (hW : 1 < W.heap.size) (hx : x ∈ rows) (f : Fx W.heap.size p b x.q x.e w w') (hb : Both p m b c' w') (hJ : JAt x w') : PS W p m b T0 c' rows v w' := by
  obtain ⟨Jx, _, _⟩ := P.ops x hx
  obtain ⟨⟨cq, tq, htq, hq⟩, ce, he⟩ := Jx.objs
  obtain ⟨⟨cp, hp⟩, ⟨cb, hbb⟩, _⟩ := P.both.parts
  have key : ∀ z cs t, w.heap[z]? = some (Obj.cells cs t (0, 0)) → t ≠ 104 → t ≠ 107 → t ≠ 89 → (z ≠ x.q ∧ z ≠ x.e) → w'.heap[z]? = some (Obj.cells cs t (0, 0)) := fun z cs t hz h1 h2 h3 h4 => f.far z cs t _ hz h1 (blk_ne hz hp h2) (blk_ne hz hbb h3) h4.1 h4.2
  have key2 : ∀ z cs t, w.heap[z]? = some (Obj.cells cs t (0, 0)) → t ≠ 104 → t ≠ 107 → t ≠ 89 → t ≠ 62 → t ≠ 63 → t ≠ 52 → w'.heap[z]? = some (Obj.cells cs t (0, 0)) := fun z cs t hz h1 h2 h3 h4 h5 h6 => key z cs t hz h1 h2 h3 ⟨blk_ne hz hq (by rcases htq with rfl | rfl <;> assumption), blk_ne hz he h6⟩
  refine ⟨hb, f.lay hW P.lay, f.laym hW P.laym, P.low.trans f.low, P.mW, key2 _ _ _ P.box (by decide) (by decide) (by decide) (by decide) (by decide) (by decide), ⟨P.row.1, ?_⟩, fun y hy => ?_, P.ndq, P.nde⟩
  · rcases P.row.2 with h2 | ⟨g, cap, cur, hv, hg, hh, r⟩
    · exact .inl h2
    · exact .inr ⟨g, cap, cur, hv, hg, key2 _ _ _ hh (by decide) (by decide) (by decide) (by decide) (by decide) (by decide), r⟩
  · obtain ⟨J, h1, h2⟩ := P.ops y hy
    refine ⟨?_, h1, h2⟩
    by_cases hxy : y = x
    · rw [hxy]; exact hJ
    · obtain ⟨⟨cs, t, ht, hyq⟩, cs', hye⟩ := J.objs
      refine J.keep ((key _ _ _ hyq ?_ ?_ ?_ ⟨fun e => hxy (map_inj P.ndq hy hx e), blk_ne hyq he ?_⟩).trans hyq.symm) ((key _ _ _ hye (by decide) (by decide) (by decide) ⟨blk_ne hye hq ?_, fun e => hxy (map_inj P.nde hy hx e)⟩).trans hye.symm)
      · rcases ht with rfl | rfl <;> decide
      · rcases ht with rfl | rfl <;> decide
      · rcases ht with rfl | rfl <;> decide
      · rcases ht with rfl | rfl <;> decide
      · rcases htq with rfl | rfl <;> decide
/-- A store of others'. -/
theorem PS.fr (P : PS W p m b T0 c rows v w) (hW : 1 < W.heap.size) (f : Fr p m b w w') (hb : Both p m b c' w') : PS W p m b T0 c' rows v w' := by
  obtain ⟨⟨cp, hp⟩, ⟨cb, hbb⟩, _⟩ := P.both.parts
  have key : ∀ z cs t, w.heap[z]? = some (Obj.cells cs t (0, 0)) → t ≠ 104 → t ≠ 107 → t ≠ 89 → w'.heap[z]? = some (Obj.cells cs t (0, 0)) := fun z cs t hz h1 h2 h3 => f.far z cs t _ hz h1 (blk_ne hz hp h2) (blk_ne hz hbb h3)
  have hl := f.low.mono P.mW
  refine ⟨hb, P.lay.same3 hl.size (hl.block 0 (by omega)), P.laym.same hl.size (hl.block 1 hW), P.low.trans hl, P.mW, key _ _ _ P.box (by decide) (by decide) (by decide), ⟨P.row.1, ?_⟩, fun y hy => ?_, P.ndq, P.nde⟩
  · rcases P.row.2 with h2 | ⟨g, cap, cur, hv, hg, hh, r⟩
    · exact .inl h2
    · exact .inr ⟨g, cap, cur, hv, hg, key _ _ _ hh (by decide) (by decide) (by decide), r⟩
  · obtain ⟨J, h1, h2⟩ := P.ops y hy
    obtain ⟨⟨cs, t, ht, hyq⟩, cs', hye⟩ := J.objs
    exact ⟨J.keep ((key _ _ _ hyq (by rcases ht with rfl | rfl <;> decide) (by rcases ht with rfl | rfl <;> decide) (by rcases ht with rfl | rfl <;> decide)).trans hyq.symm) ((key _ _ _ hye (by decide) (by decide) (by decide)).trans hye.symm), h1, h2⟩
/-- One more. -/
theorem PS.push (P : PS W p m b T0 c rows v w) (hW : 1 < W.heap.size) {v' : Value} (ho : w'.ownsRow W.heap.size 45 3 v' (rows.length + 1) (flatJ rows ++ x.cells)) (hg : w.grownBy w' v.ownBlock) (hJ : JAt x w) (hq : W.heap.size ≤ x.q) (he : W.heap.size ≤ x.e) (nq : x.q ∉ rows.map JP.q) (ne : x.e ∉ rows.map JP.e) :
    PS W p m b T0 c (rows ++ [x]) v' w' := by
  have key : ∀ z o, w.heap[z]? = some o → (∀ cs, o ≠ Obj.cells cs 45 (0, 0)) → w'.heap[z]? = some o := fun z o hz hne => by
    refine (hg.block z (Array.getElem?_eq_some_iff.1 hz).1 fun e => ?_).trans hz
    rcases P.row.2 with ⟨hv, _⟩ | ⟨g, cap, cur, hv, _, hh, _⟩
    · rw [hv] at e; cases e
    · rw [hv] at e
      simp only [Value.ownBlock, Option.some.injEq] at e
      rw [e, hh] at hz
      injection hz with hz
      exact hne cur hz.symm
  have kc : ∀ {z : Nat} {cs : Array Value} {t : TypeId}, w.heap[z]? = some (Obj.cells cs t (0, 0)) → t ≠ 45 → w'.heap[z]? = some (Obj.cells cs t (0, 0)) := fun {z cs t} hz ht => key z _ hz fun cs' e => by
    injection e with _ e
    exact ht e
  have kJ : ∀ {y : JP}, JAt y w → JAt y w' := fun {y} J => by
    obtain ⟨⟨cs, t, ht, hyq⟩, cs', hye⟩ := J.objs
    exact J.keep ((kc hyq (by rcases ht with rfl | rfl <;> decide)).trans hyq.symm) ((kc hye (by decide)).trans hye.symm)
  have hl : Below W.heap.size w w' := ⟨hg.os, hg.tape, hg.output, hg.size, fun k hk => hg.block k (Nat.lt_of_lt_of_le hk P.low.size) fun e => by have := (P.row.lt k e.symm).1; omega⟩
  refine ⟨?_, P.lay.same3 hl.size (hl.block 0 (by omega)), P.laym.same hl.size (hl.block 1 hW), P.low.trans hl, P.mW, kc P.box (by decide), by rw [flatJ_push, List.length_append]; exact ho, fun y hy => ?_, ?_, ?_⟩
  · obtain ⟨n, D, s, L, hP, h2⟩ := P.both
    obtain ⟨u, hr⟩ := hP.ref
    obtain ⟨es, k, hm⟩ := hP.prog.map_at
    refine ⟨n, D, s, L, ⟨hP.prog.keep ((kc hP.prog.blk (by decide)).trans hP.prog.blk.symm) ((key _ _ hm (fun cs e => by cases e)).trans hm.symm), ⟨u, kc hr.blk (by decide), ⟨hr.own.1, ?_⟩, hr.pos⟩, hP.mp, hP.pb⟩, h2⟩
    rcases hr.own.2 with hn | ⟨g, cap, cur, hv, hB, hh, rest⟩
    · exact .inl hn
    · exact .inr ⟨g, cap, cur, hv, hB, kc hh (by decide), rest⟩
  · rcases List.mem_append.1 hy with hy | hy
    · obtain ⟨J, h1, h2⟩ := P.ops y hy
      exact ⟨kJ J, h1, h2⟩
    · rw [List.mem_singleton.1 hy]
      exact ⟨kJ hJ, hq, he⟩
  · rw [List.map_append, List.nodup_append]
    refine ⟨P.ndq, by simp, fun a ha z hz => ?_⟩
    rw [List.map_singleton, List.mem_singleton] at hz
    rintro rfl
    exact nq (hz ▸ ha)
  · rw [List.map_append, List.nodup_append]
    refine ⟨P.nde, by simp, fun a ha z hz => ?_⟩
    rw [List.map_singleton, List.mem_singleton] at hz
    rintro rfl
    exact ne (hz ▸ ha)
/-- What lies behind is new. -/
theorem PS.old (P : PS W p m b T0 c rows v w) {z : Nat} (hz : w.heap.size ≤ z) : z ∉ rows.map JP.q ∧ z ∉ rows.map JP.e := by
  constructor
  · intro h
    obtain ⟨y, hy, rfl⟩ := List.mem_map.1 h
    obtain ⟨⟨cs, t, _, hq⟩, _⟩ := (P.ops y hy).1.objs
    have := (Array.getElem?_eq_some_iff.1 hq).1
    omega
  · intro h
    obtain ⟨y, hy, rfl⟩ := List.mem_map.1 h
    obtain ⟨_, cs, he⟩ := (P.ops y hy).1.objs
    have := (Array.getElem?_eq_some_iff.1 he).1
    omega
end
end Go.Proofs.YtipgidkpjilhoaaDoor
namespace Go.Proofs.YtipgidkpjilhoaaDoor
open Go.RowKit Go.Maps

theorem Tryd_infoJ : (Tryd.prog.info? 45).map (fun i => (i.zero, i.size, i.bytes)) = some (some (.agg #[.pointer none, .pointer none, .pointer none]), 3, 24) := by kernel_rfl
section
variable {p m b c : Nat} {w : World}
theorem both_same (h : Both p m b c w) : Calls Tryd.prog 20 #[.agg #[.pointer (some ⟨p, 0, none⟩), .pointer (some ⟨b, 0, none⟩)]] w fun e W' => e = .returned (.bool true) ∧ Below w.heap.size w W' := by
  obtain ⟨n, D, s, L, hP, _⟩ := h
  exact pair_same hP
theorem both_words (h : Both p m b c w) (hc : c ≤ 900) : Calls Tryd.prog 21 #[.agg #[.pointer (some ⟨p, 0, none⟩), .pointer (some ⟨b, 0, none⟩)]] w fun e W' => e = .returned (.bool true) ∧ Below w.heap.size w W' := by
  obtain ⟨n, D, s, L, hP, hr, hL, _⟩ := h
  exact pair_words hP hr (by omega)
theorem both_store (h : Both p m b c w) (hl : LayM w) (hc : c ≤ 900) (x : Ad) (v : Int) (hv : (Lit.int .u64 v).wf = true) :
    Calls Tryd.prog 13 #[.agg #[.pointer (some ⟨p, 0, none⟩), .pointer (some ⟨b, 0, none⟩)], .agg #[.int .u8 x.k, .int .i64 x.a, .int .i64 x.f, .int .u64 v]] w fun e W' => e = .returned (.tuple #[]) ∧ Both p m b (c + 1) W' ∧ Fr p m b w W' := by
  obtain ⟨n, D, s, L, hP, hr, hL, hn, h0, h1⟩ := h
  refine (pair_store2 x v hv hP hr hl h0 (by omega) (by omega) (by omega)).mono ?_
  rintro e W' ⟨rfl, hP', hf⟩
  have := storeA_len L x v
  exact ⟨rfl, ⟨_, _, _, _, hP', hr.store x v, by omega, by omega, by show 0 ≤ s.st + 1; omega, by show s.st + 1 ≤ _; omega⟩, hf⟩
/-- The line and the slot of a new Push. -/
def pnx (s : Int) : Int := if 0 ≤ s ∧ s < 256 then 1 else 0
def pto (s : Int) : Int := if 0 ≤ s ∧ s < 256 then s else 0
theorem newPush_all (s : Int) (w : World) : Calls Tryd.prog 11 #[.int .i64 s] w fun e w' => e = .returned (.pointer (some ⟨w.heap.size, 0, none⟩)) ∧ OpAt 63 w.heap.size (pnx s) 0 (pto s) w' ∧ Below w.heap.size w w' ∧ w'.heap.size = w.heap.size + 1 := by
  unfold pnx pto
  by_cases hs : 0 ≤ s ∧ s < 256
  · rw [if_pos hs, if_pos hs]; exact newPush_any s hs.1 hs.2 w
  · rw [if_neg hs, if_neg hs]; exact newPush_bad s hs w
theorem ref_newPush_all (s : Int) (w : World) : Calls Tryd.prog 12 #[.int .i64 s] w fun e w' => e = .returned (.pointer (some ⟨w.heap.size, 0, none⟩)) ∧ RefAt w.heap.size true (pto s) (pnx s) false 0 0 w' ∧ Below w.heap.size w w' ∧ w'.heap.size = w.heap.size + 1 := by
  unfold pnx pto
  by_cases hs : 0 ≤ s ∧ s < 256
  · rw [if_pos hs, if_pos hs]; exact ref_newPush s hs.1 hs.2 w
  · rw [if_neg hs, if_neg hs]; exact ref_newPush_bad s hs w
theorem pushOk_new (s : Int) : PushOk (pnx s) 0 (pto s) (pto s) false 0 := by
  refine ⟨u64_0, u64_0, rfl, i64w_in ?_ ?_, rfl, ?_, ?_⟩
  · unfold pto; split <;> omega
  · unfold pto; split <;> omega
  · unfold pnx; split <;> omega
  · unfold pnx; split <;> omega
theorem popOk_new : PopOk 1 0 0 0 false 0 := ⟨u64_0, u64_0, .inl ⟨rfl, rfl⟩⟩
end
end Go.Proofs.YtipgidkpjilhoaaDoor
