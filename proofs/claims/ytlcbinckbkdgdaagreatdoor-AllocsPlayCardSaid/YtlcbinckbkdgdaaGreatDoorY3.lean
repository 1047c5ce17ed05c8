/-
  The program's operation beside both memories: what each of its steps does; condition: both memories lie as they say, the operation as it says.
  An operation and the document's, side by side: a step of the document's, then one of the program's; condition: both memories lie as they say and say the same, both operations as they say.
-/
import Derived.Test.YtlcbinckbkdgdaaGreatDoorY1
import Derived.Test.YtlcbinckbkdgdaaGreatDoorF4
import Derived.Test.YtlcbinckbkdgdaaGreatDoorD6
namespace Go.Proofs.YtlcbinckbkdgdaaGreatDoor
open Go.RowKit Go.Maps

section
variable {B p m b n q e : Nat} {t : TypeId} {nx h to : Int} {D : DataW Unit} {s r : Acc8} {L : List (Ad × Int)} {w w' : World}
theorem OpAt.ne_pr (o : OpAt t q nx h to w) (hP : Pr p m b n D s L r w) (ht : t = 118 ∨ t = 133) : q ≠ p ∧ q ≠ m ∧ q ≠ b := by
  obtain ⟨v, hr⟩ := hP.ref
  refine ⟨o.ne_p hP.prog (by rcases ht with rfl | rfl <;> decide), o.ne_b hP.prog, ?_⟩
  rintro rfl
  have := Eq.trans (Eq.symm o) hr.blk
  simp only [Option.some.injEq, Obj.cells.injEq] at this
  have h2 := this.2.1
  rcases ht with rfl | rfl <;> exact absurd h2 (by decide)
/-- A step of the program's: the document's memory stands. -/
theorem Pr.only3 (hP : Pr p m b n D s L r w) (o : OpAt t q nx h to w) (ht : t = 118 ∨ t = 133) (hBm : B ≤ m) (hBq : B ≤ q) (ho : Only3 p m q w w') {n' : Nat} {D' : DataW Unit} {s' : Acc8} (hp : PM p m n' D' s'.st s'.ak s'.k s'.a s'.f s'.was s'.is s'.done w') :
    Pr p m b n' D' s' L r w' ∧ Fx B p b q e w w' := by
  obtain ⟨e1, e2, e3⟩ := o.ne_pr hP ht
  have hmp := hP.mp
  have hpb := hP.pb
  obtain ⟨es, c, hm⟩ := hP.prog.map_at
  refine ⟨⟨hp, ?_, hmp, hpb⟩, ⟨ho.os, ho.tape, ho.output, ho.size, fun k hk => ho.block k (by have := hP.lt; omega) (by omega) (by omega) (by omega)⟩, fun x cs u fr hx _ h1 _ h3 _ => (ho.block x (Array.getElem?_eq_some_iff.1 hx).1 h1 (fun e => ?_) h3).trans hx⟩
  · obtain ⟨v, hr⟩ := hP.ref
    refine ⟨v, (ho.block b hr.size (by omega) (by omega) (Ne.symm e3)).trans hr.blk, ⟨hr.own.1, ?_⟩, hr.pos⟩
    rcases hr.own.2 with hn | ⟨g, cap, cur, hv, hB, hg, rest⟩
    · exact .inl hn
    · refine .inr ⟨g, cap, cur, hv, hB, (ho.block g (Array.getElem?_eq_some_iff.1 hg).1 (by omega) (by omega) fun e => ?_).trans hg, rest⟩
      subst e
      have := Eq.trans (Eq.symm o) hg
      simp only [Option.some.injEq, Obj.cells.injEq] at this
      have h2 := this.2.1
      rcases ht with rfl | rfl <;> exact absurd h2 (by decide)
  · subst e
    rw [hm] at hx
    cases hx
theorem got_under (hnx : nx ≠ 0) (o : OpAt 118 q nx h to w) : Calls Tryz.prog 76 #[.pointer (some ⟨q, 0, none⟩)] w fun ee w' => ee = .returned (.tuple #[.int .i64 0, .bool false]) ∧ w' = w := by
  have HO := Lib.hid o
  have hz : (nx == 0) = false := by simpa using hnx
  clear o hnx
  go_enter Tryz.func76, Tryz.ntmps76
  go_wp2_with (go_at_call 66; refine (over_any HO.out).mono ?_; rintro e w' ⟨rfl, rfl⟩)
  go_ret2
  exact ⟨rfl, rfl⟩
/-- What a step of the program's leaves. -/
def PStep (B p m b q e n' : Nat) (t : TypeId) (nx h to : Int) (D' : DataW Unit) (s' : Acc8) (L : List (Ad × Int)) (r : Acc8) (w : World) (ee : Ending) (w' : World) : Prop :=
  ee = .returned (.bool (nx == 0)) ∧ OpAt t q nx h to w' ∧ Pr p m b n' D' s' L r w' ∧ Fx B p b q e w w'
theorem prog_over_pop (o : OpAt 118 q 0 h to w) (hP : Pr p m b n D s L r w) (hBw : B ≤ w.heap.size) : Calls Tryz.prog 146 #[.pointer (some ⟨q, 0, none⟩), .pointer (some ⟨p, 0, none⟩)] w (PStep B p m b q e n 118 0 h to D s L r w) := by
  refine (popStep_over _ o).mono ?_
  rintro ee w' ⟨rfl, rfl⟩
  exact ⟨rfl, o, hP, .of_below (Below.refl _ _) hBw⟩
theorem prog_over_push (o : OpAt 133 q 0 h to w) (hP : Pr p m b n D s L r w) (hBw : B ≤ w.heap.size) : Calls Tryz.prog 43 #[.pointer (some ⟨q, 0, none⟩), .pointer (some ⟨p, 0, none⟩)] w (PStep B p m b q e n 133 0 h to D s L r w) := by
  refine (pushStep_over _ o).mono ?_
  rintro ee w' ⟨rfl, rfl⟩
  exact ⟨rfl, o, hP, .of_below (Below.refl _ _) hBw⟩
theorem prog_pop1 (hP : Pr p m b n D s L r w) (hBm : B ≤ m) (hBq : B ≤ q) (hB : 1 < B) (h0 : 0 ≤ s.st) (h1 : s.st < 1000000) (hl : Lay w) (o : OpAt 118 q 1 h to w) : Calls Tryz.prog 146 #[.pointer (some ⟨q, 0, none⟩), .pointer (some ⟨p, 0, none⟩)] w
    (PStep B p m b q e n 118 (if wSlot (valD D adF) < 0 then 0 else 2) (valD D adF) to D (s.touch 1 adF (valD D adF) (valD D adF) false) L r w) := by
  obtain ⟨e1, e2, e3⟩ := o.ne_pr hP (.inl rfl)
  have hmp := hP.mp
  refine (popStep_1 (b := m) (Post := fun Y => PM p m n D (s.st + 1) 1 0 0 0 (valD D adF) (valD D adF) false Y) o (fun X v hX => hX.setQ e1 e2 0 v) (fun X hX => start_any h0 (by omega) (hl.below hX) (by omega) (by omega) (by omega) (o.below hX) (hP.prog.below hX))).mono ?_
  rintro ee w' ⟨rfl, o', m', k⟩
  obtain ⟨g1, g2⟩ := hP.only3 (e := e) (s' := s.touch 1 adF (valD D adF) (valD D adF) false) o (.inl rfl) hBm hBq k m'
  exact ⟨rfl, o', g1, g2⟩
theorem prog_pop2 (hP : Pr p m b n D s L r w) (hBm : B ≤ m) (hBq : B ≤ q) (hB : 1 < B) (h0 : 0 ≤ s.st) (h1 : s.st < 1000000) (hl : Lay w) (hh : U64 h) (o : OpAt 118 q 2 h to w) : Calls Tryz.prog 146 #[.pointer (some ⟨q, 0, none⟩), .pointer (some ⟨p, 0, none⟩)] w
    (PStep B p m b q e n 118 3 h (wSlot (valD D (adL (wSlot h) (i64w_slot h)))) D (s.touch 1 (adL (wSlot h) (i64w_slot h)) (valD D (adL (wSlot h) (i64w_slot h))) (valD D (adL (wSlot h) (i64w_slot h))) false) L r w) := by
  obtain ⟨e1, e2, e3⟩ := o.ne_pr hP (.inl rfl)
  have hmp := hP.mp
  refine (popStep_2 (b := m) (Post := fun Y => PM p m n D (s.st + 1) 1 9 (wSlot h) 2 (valD D (adL (wSlot h) (i64w_slot h))) (valD D (adL (wSlot h) (i64w_slot h))) false Y) o (fun X v hX => hX.setQ e1 e2 0 v) (fun X hX => look_any h0 (by omega) (hl.below hX) (by omega) (by omega) (by omega) hh (o.below hX) (hP.prog.below hX))).mono ?_
  rintro ee w' ⟨rfl, o', m', k⟩
  obtain ⟨g1, g2⟩ := hP.only3 (e := e) (s' := s.touch 1 (adL (wSlot h) (i64w_slot h)) (valD D (adL (wSlot h) (i64w_slot h))) (valD D (adL (wSlot h) (i64w_slot h))) false) o (.inl rfl) hBm hBq k m'
  exact ⟨rfl, o', g1, g2⟩
theorem prog_push1 (hP : Pr p m b n D s L r w) (hBm : B ≤ m) (hBq : B ≤ q) (h0 : 0 ≤ s.st) (h1 : s.st < 1000000) (o : OpAt 133 q 1 h to w) : Calls Tryz.prog 43 #[.pointer (some ⟨q, 0, none⟩), .pointer (some ⟨p, 0, none⟩)] w
    (PStep B p m b q e n 133 2 (valD D adF) to D (s.touch 1 adF (valD D adF) (valD D adF) false) L r w) := by
  obtain ⟨e1, e2, e3⟩ := o.ne_pr hP (.inr rfl)
  refine (pushStep_1 (b := m) (Post := fun Y => PM p m n D (s.st + 1) 1 0 0 0 (valD D adF) (valD D adF) false Y) o (fun X v hX => hX.setQ e1 e2 0 v) (fun X hX => read_any (by decide) h0 (by omega) (o.below hX) (hP.prog.below hX))).mono ?_
  rintro ee w' ⟨rfl, o', m', k⟩
  obtain ⟨g1, g2⟩ := hP.only3 (e := e) (s' := s.touch 1 adF (valD D adF) (valD D adF) false) o (.inr rfl) hBm hBq k m'
  exact ⟨rfl, o', g1, g2⟩
theorem prog_push2 (hP : Pr p m b n D s L r w) (hBm : B ≤ m) (hBq : B ≤ q) (hB : 1 < B) (h0 : 0 ≤ s.st) (h1 : s.st < 1000000) (hn : n < 1000000) (hl : Lay w) (hlm : LayM w) (hh : U64 h) (hto : I64w to) (o : OpAt 133 q 2 h to w) : Calls Tryz.prog 43 #[.pointer (some ⟨q, 0, none⟩), .pointer (some ⟨p, 0, none⟩)] w
    (PStep B p m b q e (n + 1) 133 3 h to (storeD D (adL to hto) (headW (wSlot h) 0)) (s.touch 2 (adL to hto) (valD D (adL to hto)) (valD (storeD D (adL to hto) (headW (wSlot h) 0)) (adL to hto)) false) L r w) := by
  obtain ⟨e1, e2, e3⟩ := o.ne_pr hP (.inr rfl)
  have hmp := hP.mp
  refine (pushStep_2 (b := m) (Post := fun Y => PM p m (n + 1) (storeD D (adL to hto) (headW (wSlot h) 0)) (s.st + 1) 2 9 to 2 (valD D (adL to hto)) (valD (storeD D (adL to hto) (headW (wSlot h) 0)) (adL to hto)) false Y) o (fun X v hX => hX.setQ e1 e2 0 v) (fun X hX => hang_any h0 (by omega) (by omega) (hl.below hX) (hlm.below hX) (by omega) (by omega) hh hto (o.below hX) (hP.prog.below hX))).mono ?_
  rintro ee w' ⟨rfl, o', m', k⟩
  obtain ⟨g1, g2⟩ := hP.only3 (e := e) (s' := s.touch 2 (adL to hto) (valD D (adL to hto)) (valD (storeD D (adL to hto) (headW (wSlot h) 0)) (adL to hto)) false) o (.inr rfl) hBm hBq k m'
  exact ⟨rfl, o', g1, g2⟩
theorem prog_pop3 (hP : Pr p m b n D s L r w) (hBm : B ≤ m) (hBq : B ≤ q) (h0 : 0 ≤ s.st) (h1 : s.st < 1000000) (hn : n < 1000000) (hl : Lay w) (hlm : LayM w) (hh : U64 h) (o : OpAt 118 q 3 h to w) : Calls Tryz.prog 146 #[.pointer (some ⟨q, 0, none⟩), .pointer (some ⟨p, 0, none⟩)] w
    (PStep B p m b q e (n + 1) 118 (if casB D adF h = true then 0 else 1) h to (casD D adF h (nextW h to)) (s.touch 3 adF (valD D adF) (valD (casD D adF h (nextW h to)) adF) (casB D adF h)) L r w) := by
  obtain ⟨e1, e2, e3⟩ := o.ne_pr hP (.inl rfl)
  refine (popStep_3 (b := m) (Post := fun Y => PM p m (n + 1) (casD D adF h (nextW h to)) (s.st + 1) 3 0 0 0 (valD D adF) (valD (casD D adF h (nextW h to)) adF) (casB D adF h) Y) o (fun X v hX => hX.setQ e1 e2 0 v) (fun X hX => swap_any (by decide) h0 (by omega) (by omega) (hl.below hX) (hlm.below hX) hh (o.below hX) (hP.prog.below hX))).mono ?_
  rintro ee w' ⟨rfl, o', m', k⟩
  obtain ⟨g1, g2⟩ := hP.only3 (e := e) (s' := s.touch 3 adF (valD D adF) (valD (casD D adF h (nextW h to)) adF) (casB D adF h)) o (.inl rfl) hBm hBq k m'
  exact ⟨rfl, o', g1, g2⟩
theorem prog_push3 (hP : Pr p m b n D s L r w) (hBm : B ≤ m) (hBq : B ≤ q) (h0 : 0 ≤ s.st) (h1 : s.st < 1000000) (hn : n < 1000000) (hl : Lay w) (hlm : LayM w) (hh : U64 h) (o : OpAt 133 q 3 h to w) : Calls Tryz.prog 43 #[.pointer (some ⟨q, 0, none⟩), .pointer (some ⟨p, 0, none⟩)] w
    (PStep B p m b q e (n + 1) 133 (if casB D adF h = true then 0 else 1) h to (casD D adF h (nextW h to)) (s.touch 3 adF (valD D adF) (valD (casD D adF h (nextW h to)) adF) (casB D adF h)) L r w) := by
  obtain ⟨e1, e2, e3⟩ := o.ne_pr hP (.inr rfl)
  refine (pushStep_3 (b := m) (Post := fun Y => PM p m (n + 1) (casD D adF h (nextW h to)) (s.st + 1) 3 0 0 0 (valD D adF) (valD (casD D adF h (nextW h to)) adF) (casB D adF h) Y) o (fun X v hX => hX.setQ e1 e2 0 v) (fun X hX => swap_any (by decide) h0 (by omega) (by omega) (hl.below hX) (hlm.below hX) hh (o.below hX) (hP.prog.below hX))).mono ?_
  rintro ee w' ⟨rfl, o', m', k⟩
  obtain ⟨g1, g2⟩ := hP.only3 (e := e) (s' := s.touch 3 adF (valD D adF) (valD (casD D adF h (nextW h to)) adF) (casB D adF h)) o (.inr rfl) hBm hBq k m'
  exact ⟨rfl, o', g1, g2⟩
/-- The document's operation, when it is over, does nothing. -/
theorem ref0_any {psh got : Bool} {sl nn : Int} (hu : U64 h) (R : RefAt e psh sl 0 got h nn w) : Calls Tryz.prog 52 #[.pointer (some ⟨e, 0, none⟩), .pointer (some ⟨b, 0, none⟩)] w fun ee w' => ee = .returned (.tuple #[]) ∧ Below w.heap.size w w' := by
  have hA : Below w.heap.size w (w.alloc (.cells #[.int .u8 0, .int .i64 0, .int .i64 0] 34)) := (Below.refl _ _).alloc (Nat.le_refl _) _
  obtain ⟨l0, l1, l2, lb⟩ := list_cells w
  have HA := Lib.hid hA
  obtain ⟨c0, c1, c2, c3, c4, c5, cf⟩ := (R.below hA).cells
  clear R hA lb cf
  go_enter Tryz.func52, Tryz.ntmps52
  go_wp2_with fail
  ((with_reducible refine (asHead10_any h _ hu).mono ?_); rintro ee w1 ⟨rfl, rfl⟩)
  go_wp2_with fail
  go_end0
  exact ⟨rfl, HA.out⟩
end
end Go.Proofs.YtlcbinckbkdgdaaGreatDoor
namespace Go.Proofs.YtlcbinckbkdgdaaGreatDoor
open Go.RowKit Go.Maps

/-- A Pop and the document's say the same. -/
def PopOk (nx h to sl : Int) (got : Bool) (nn : Int) : Prop := U64 h ∧ U64 nn ∧
  ((nx = 1 ∧ got = false) ∨ (nx = 2 ∧ got = false ∧ 0 ≤ wSlot h) ∨ (nx = 3 ∧ got = false ∧ 0 ≤ wSlot h ∧ to = wSlot nn) ∨ (nx = 0 ∧ got = false ∧ wSlot h < 0) ∨ (nx = 0 ∧ got = true ∧ 0 ≤ wSlot h ∧ sl = wSlot h))
/-- A Push and the document's say the same. -/
def PushOk (nx h to sl : Int) (got : Bool) (nn : Int) : Prop := U64 h ∧ U64 nn ∧ got = false ∧ I64w to ∧ sl = to ∧ 0 ≤ nx ∧ nx ≤ 3
section
variable {B p m b n q e c : Nat} {t : TypeId} {nx h to sl nn : Int} {psh got : Bool} {D : DataW Unit} {s r : Acc8} {L : List (Ad × Int)} {w w' : World}
theorem Fx.toQ (f : Fx B p b p e w w') : Fx B p b q e w w' := ⟨f.low, fun x cs t fr hx ht h1 h2 _ h4 => f.far x cs t fr hx ht h1 h2 h1 h4⟩
theorem Fx.toE (f : Fx B p b q p w w') : Fx B p b q e w w' := ⟨f.low, fun x cs t fr hx ht h1 h2 h3 _ => f.far x cs t fr hx ht h1 h2 h3 h1⟩
theorem RefAt.ne_pr (R : RefAt e psh sl nx got h nn w) (hP : Pr p m b n D s L r w) : e ≠ p ∧ e ≠ b := by
  obtain ⟨v, hr⟩ := hP.ref
  constructor
  · rintro rfl
    have := hP.prog.blk.symm.trans R
    simp at this
  · rintro rfl
    have := hr.blk.symm.trans R
    simp [rest8] at this
theorem RefAt.ne_op {nx' h' to' : Int} (R : RefAt e psh sl nx got h nn w) (o : OpAt t q nx' h' to' w) (ht : t = 118 ∨ t = 133) : q ≠ e := by
  rintro rfl
  have := Eq.trans (Eq.symm o) R
  simp only [Option.some.injEq, Obj.cells.injEq] at this
  have h2 := this.2.1
  rcases ht with rfl | rfl <;> exact absurd h2 (by decide)
theorem RefAt.fx (R : RefAt e psh sl nx got h nn w) (f : Fx B p b q p w w') (hp : e ≠ p) (hb : e ≠ b) (hq : q ≠ e) : RefAt e psh sl nx got h nn w' := f.far e _ _ _ R (by decide) hp hb (Ne.symm hq) hp
theorem OpAt.fx (o : OpAt t q nx h to w) (f : Fx B p b p e w w') (ht : t = 118 ∨ t = 133) (hp : q ≠ p) (hb : q ≠ b) (hq : q ≠ e) : OpAt t q nx h to w' := f.far q _ _ _ o (by rcases ht with rfl | rfl <;> decide) hp hb hp hq

end
end Go.Proofs.YtlcbinckbkdgdaaGreatDoor
