/-
  The document's memory behind one of its calls, in words; conditions as each theorem says.
-/
import Derived.Test.YtmjcbjcnmgleaaaGreatDoorXP14
import Derived.Test.YtmjcbjcnmgleaaaGreatDoorXP15
import Derived.Test.YtmjcbjcnmgleaaaGreatDoorXP22
namespace Go.Proofs.YtmjcbjcnmgleaaaGreatDoor
open Go.RowKit Go.Maps
def AftP (L : List (Ad × Int)) (c : Nat) (M : MV) : Prop := (∀ x, vals L x = M.V x) ∧ L.length ≤ c ∧ (L.map Prod.fst).Nodup
section
variable {B p m b n c e K : Nat} {D : DataW Unit} {s : Acc8} {L : List (Ad × Int)} {M : MV} {w w' : World} {o : OS}
theorem vals_storeA (x : Ad) (v : Int) {V : Ad → Int} (hv : ∀ y, vals L y = V y) (y : Ad) : vals (storeA L x v) y = setV V x v y := by
  unfold storeA setV
  by_cases hm : mayB x.k x.a x.f = true
  · rw [if_pos hm, vals_put]
    by_cases e : x = y
    · rw [if_pos e, if_pos ⟨hm, (eqA_iff y x).2 e.symm⟩]
    · rw [if_neg e, if_neg (fun h => e ((eqA_iff y x).1 h.2).symm), hv]
  · rw [if_neg hm, if_neg (fun h => hm h.1), hv]
theorem casA_V (x : Ad) (u : Int) {V : Ad → Int} (hv : ∀ y, vals L y = V y) : casA L x u = casV V x u := by unfold casA casV; rw [hv]
theorem vals_casL (x : Ad) (u v : Int) {V : Ad → Int} (hv : ∀ y, vals L y = V y) (y : Ad) : vals (casL L x u v) y = csV V x u v y := by
  unfold casL csV
  rw [casA_V x u hv]
  by_cases hc : casV V x u = true
  · rw [if_pos hc, if_pos hc]
    have hm : mayB x.k x.a x.f = true := by unfold casV at hc; simp at hc; exact hc.1
    have := vals_storeA x v hv y
    rw [show storeA L x v = putA L x v from if_pos hm] at this
    exact this
  · rw [if_neg hc, if_neg hc, hv]
theorem storeA_nodup (h : (L.map Prod.fst).Nodup) (x : Ad) (v : Int) : ((storeA L x v).map Prod.fst).Nodup := by
  unfold storeA
  split
  · exact putA_nodup L x v h
  · exact h
theorem casL_nodup (h : (L.map Prod.fst).Nodup) (x : Ad) (u v : Int) : ((casL L x u v).map Prod.fst).Nodup := by
  unfold casL
  split
  · exact putA_nodup L x v h
  · exact h
theorem aft_ld {v : Int} (x : Ad) (hv : ∀ y, vals L y = M.V y) (hn : (L.map Prod.fst).Nodup) (hc : L.length ≤ c) (e : vals L x = v) : AftP L (c + 1) (ldM M x) ∧ M.s.touch 1 x v v false = (ldM M x).s := by
  subst e
  rw [hv]
  exact ⟨⟨hv, by omega, hn⟩, rfl⟩
theorem aft_st (x : Ad) (v : Int) (hv : ∀ y, vals L y = M.V y) (hn : (L.map Prod.fst).Nodup) (hc : L.length ≤ c) : AftP (storeA L x v) (c + 1) (stM M x v) ∧ M.s.touch 2 x (vals L x) (vals (storeA L x v) x) false = (stM M x v).s := by
  have hv' := vals_storeA x v hv
  rw [hv, hv']
  exact ⟨⟨hv', Nat.le_trans (storeA_len L x v) (by omega), storeA_nodup hn x v⟩, rfl⟩
theorem aft_cs (x : Ad) (u v : Int) {cc : Bool} (hcc : casA L x u = cc) (hv : ∀ y, vals L y = M.V y) (hn : (L.map Prod.fst).Nodup) (hc : L.length ≤ c) : AftP (casL L x u v) (c + 1) (csM M x u v) ∧ M.s.touch 3 x (vals L x) (vals (casL L x u v) x) cc = (csM M x u v).s := by
  subst hcc
  have hv' := vals_casL x u v hv
  rw [hv, hv', casA_V x u hv]
  exact ⟨⟨hv', Nat.le_trans (casL_len L x u v) (by omega), casL_nodup hn x u v⟩, rfl⟩
def PopD (e : Nat) (o : OS) (w : World) : Prop := ∃ sl got nn, RefAt e false sl o.nx got o.h nn w ∧ PopOk o.nx o.h o.to sl got nn
def PushD (e : Nat) (o : OS) (w : World) : Prop := ∃ nn, RefAt e true o.to o.nx false o.h nn w ∧ U64 nn ∧ U64 o.h ∧ (0 ≤ o.nx ∧ o.nx ≤ 3) ∧ (0 ≤ o.to ∧ o.to < 256)
structure Say (p m b n : Nat) (D : DataW Unit) (L : List (Ad × Int)) (c : Nat) (M : MV) (w : World) : Prop where
  pr : Pr p m b n D M.s L M.s w
  rel : Rel D L
  val : ∀ x, vals L x = M.V x
  len : L.length ≤ c
  st0 : 0 ≤ M.s.st
  st1 : M.s.st < 1000000
theorem Say.u64 (S : Say p m b n D L c M w) (x : Ad) : U64 (M.V x) := by rw [← S.val]; exact S.pr.val_u64 S.rel x
theorem Say.aft (S : Say p m b n D L c M w) : AftP L (c + 1) M := ⟨S.val, by have := S.len; omega, S.rel.nodup⟩
theorem popX_1 {h to : Int} : popX ⟨1, h, to⟩ M = (⟨if wSlot (M.V adF) < 0 then 0 else 2, M.V adF, to⟩, ldM M adF) := rfl
theorem popX_2 {h to : Int} : popX ⟨2, h, to⟩ M = (⟨3, h, wSlot (M.V (adS (wSlot h)))⟩, ldM M (adS (wSlot h))) := rfl
theorem popX_3 {h to : Int} : popX ⟨3, h, to⟩ M = (⟨if M.V adF = h then 0 else 1, h, to⟩, csM M adF h (nextW h to)) := rfl
theorem popX_0 {h to : Int} : popX ⟨0, h, to⟩ M = (⟨0, h, to⟩, M) := rfl
theorem pushX_1 {h to : Int} : pushX ⟨1, h, to⟩ M = (⟨2, M.V adF, to⟩, ldM M adF) := rfl
theorem pushX_2 {h to : Int} : pushX ⟨2, h, to⟩ M = (⟨3, h, to⟩, stM M (adS to) (headW (wSlot h) 0)) := rfl
theorem pushX_3 {h to : Int} : pushX ⟨3, h, to⟩ M = (⟨if M.V adF = h then 0 else 1, h, to⟩, csM M adF h (nextW h to)) := rfl
theorem pushX_0 {h to : Int} : pushX ⟨0, h, to⟩ M = (⟨0, h, to⟩, M) := rfl
def OpZ (B p m b n : Nat) (D : DataW Unit) (s : Acc8) (e : Nat) (psh : Bool) (sl ln : Int) (got : Bool) (h nn : Int) (L' : List (Ad × Int)) (r' : Acc8) (w : World) (ee : Ending) (w' : World) : Prop := ee = .returned (.tuple #[]) ∧ RefAt e psh sl ln got h nn w' ∧ Pr p m b n D s L' r' w' ∧ Fx B p b p e w w'
theorem pop_doc (hBm : B ≤ m) (hBe : B ≤ e) (hc : c ≤ 4900) (S : Say p m b n D L c M w) (R : PopD e o w) :
    ∃ sl got nn L', AftP L' (c + 1) (popX o M).2 ∧ PopOk (popX o M).1.nx (popX o M).1.h (popX o M).1.to sl got nn ∧ Calls Tryz.prog 102 #[.pointer (some ⟨e, 0, none⟩), .pointer (some ⟨b, 0, none⟩)] w (OpZ B p m b n D M.s e false sl (popX o M).1.nx got (popX o M).1.h nn L' (popX o M).2.s w) := by
  obtain ⟨nx, h, to⟩ := o
  obtain ⟨sl, got, nn, R, hu, hun, ok⟩ := R
  obtain ⟨hep, heb⟩ := R.ne_pr S.pr
  have hBw : B ≤ w.heap.size := Nat.le_trans hBe (Nat.le_of_lt R.lt)
  have hl := S.len
  have h0 := S.st0
  have h1 := S.st1
  simp only at R hu hun ok
  rcases ok with ⟨rfl, rfl⟩ | ⟨rfl, rfl, hs⟩ | ⟨rfl, rfl, hs, rfl⟩ | ⟨rfl, rfl, hs⟩ | ⟨rfl, rfl, hs, hsl⟩
  · rw [popX_1, ← S.val]
    obtain ⟨a1, a2⟩ := aft_ld adF S.val S.rel.nodup hl rfl
    refine ⟨sl, false, nn, L, a1, ⟨S.pr.val_u64 S.rel adF, hun, ?_⟩, ?_⟩
    · by_cases hs : wSlot (vals L adF) < 0
      · simp only [if_pos hs]; exact .inr (.inr (.inr (.inl ⟨trivial, trivial, hs⟩)))
      · simp only [if_neg hs]; exact .inr (.inl ⟨trivial, trivial, by omega⟩)
    · rw [← a2]
      exact ref1_to (q := p) (ln' := if wSlot (vals L adF) < 0 then 0 else 2) hBm hBe hep heb S.pr S.rel R hu rfl (by simp) (by omega) h0 h1
  · rw [popX_2, adS_eq (i64w_slot h)]
    obtain ⟨a1, a2⟩ := aft_ld (adL (wSlot h) (i64w_slot h)) S.val S.rel.nodup hl rfl
    refine ⟨sl, false, _, L, a1, ⟨hu, S.pr.val_u64 S.rel _, .inr (.inr (.inl ⟨rfl, rfl, hs, by rw [S.val]⟩))⟩, ?_⟩
    rw [← a2]
    exact ref2_pop (q := p) hBm hBe hep heb S.pr R hu rfl (by omega) h0 h1
  · rw [popX_3]
    by_cases hc : casA L adF h = true
    · have hF : M.V adF = h := by rw [casA_V adF h S.val, casV_F] at hc; simpa using hc
      rw [if_pos hF]
      obtain ⟨a1, a2⟩ := aft_cs adF h (nextW h (wSlot nn)) hc S.val S.rel.nodup hl
      refine ⟨_, true, nn, _, a1, ⟨hu, hun, .inr (.inr (.inr (.inr ⟨rfl, rfl, hs, rfl⟩)))⟩, ?_⟩
      rw [← a2]
      exact ref3_pop_yes (q := p) hBm hBe hep heb S.pr R hu hc hun (by omega) h0 h1
    · have hc' : casA L adF h = false := by simpa using hc
      have hF : ¬ M.V adF = h := by rw [casA_V adF h S.val, casV_F] at hc'; simpa using hc'
      rw [if_neg hF]
      obtain ⟨a1, a2⟩ := aft_cs adF h (nextW h (wSlot nn)) hc' S.val S.rel.nodup hl
      refine ⟨sl, false, nn, _, a1, ⟨hu, hun, .inl ⟨rfl, rfl⟩⟩, ?_⟩
      rw [← a2]
      exact ref3_pop_no (q := p) hBm hBe hep heb S.pr R hu hc' hun (by omega) h0 h1
  · rw [popX_0]
    refine ⟨sl, false, nn, L, S.aft, ⟨hu, hun, .inr (.inr (.inr (.inl ⟨rfl, rfl, hs⟩)))⟩, (ref0_any (b := b) hu R).mono ?_⟩
    rintro ee w1 ⟨rfl, hb⟩
    exact ⟨rfl, R.below hb, S.pr.below hb, .of_below hb hBw⟩
  · rw [popX_0]
    refine ⟨sl, true, nn, L, S.aft, ⟨hu, hun, .inr (.inr (.inr (.inr ⟨rfl, rfl, hs, hsl⟩)))⟩, (ref0_any (b := b) hu R).mono ?_⟩
    rintro ee w1 ⟨rfl, hb⟩
    exact ⟨rfl, R.below hb, S.pr.below hb, .of_below hb hBw⟩
theorem push_doc (hBm : B ≤ m) (hBe : B ≤ e) (hc : c ≤ 4900) (S : Say p m b n D L c M w) (R : PushD e o w) :
    ∃ nn L', AftP L' (c + 1) (pushX o M).2 ∧ (U64 nn ∧ U64 (pushX o M).1.h ∧ (0 ≤ (pushX o M).1.nx ∧ (pushX o M).1.nx ≤ 3) ∧ (0 ≤ (pushX o M).1.to ∧ (pushX o M).1.to < 256)) ∧ Calls Tryz.prog 102 #[.pointer (some ⟨e, 0, none⟩), .pointer (some ⟨b, 0, none⟩)] w (OpZ B p m b n D M.s e true (pushX o M).1.to (pushX o M).1.nx false (pushX o M).1.h nn L' (pushX o M).2.s w) := by
  obtain ⟨nx, h, to⟩ := o
  obtain ⟨nn, R, hun, hu, hnx, hto⟩ := R
  obtain ⟨hep, heb⟩ := R.ne_pr S.pr
  have hBw : B ≤ w.heap.size := Nat.le_trans hBe (Nat.le_of_lt R.lt)
  have hl := S.len
  have h0 := S.st0
  have h1 := S.st1
  simp only at R hun hu hnx hto
  obtain rfl | rfl | rfl | rfl : nx = 0 ∨ nx = 1 ∨ nx = 2 ∨ nx = 3 := by omega
  · rw [pushX_0]
    refine ⟨nn, L, S.aft, ⟨hun, hu, by simp, hto⟩, (ref0_any (b := b) hu R).mono ?_⟩
    rintro ee w1 ⟨rfl, hb⟩
    exact ⟨rfl, R.below hb, S.pr.below hb, .of_below hb hBw⟩
  · rw [pushX_1, ← S.val]
    obtain ⟨a1, a2⟩ := aft_ld adF S.val S.rel.nodup hl rfl
    refine ⟨nn, L, a1, ⟨hun, S.pr.val_u64 S.rel adF, by simp, hto⟩, ?_⟩
    rw [← a2]
    exact ref1_to (q := p) (ln' := 2) hBm hBe hep heb S.pr S.rel R hu rfl (by simp) (by omega) h0 h1
  · have hw : I64w to := i64w_in (by omega) (by omega)
    rw [pushX_2, adS_eq hw]
    obtain ⟨a1, a2⟩ := aft_st (adL to hw) (headW (wSlot h) 0) S.val S.rel.nodup hl
    refine ⟨nn, _, a1, ⟨hun, hu, by simp, hto⟩, ?_⟩
    rw [← a2]
    exact ref2_push (q := p) hBm hBe hep heb S.pr R hu hw (by omega) h0 h1
  · rw [pushX_3]
    by_cases hc : casA L adF h = true
    · have hF : M.V adF = h := by rw [casA_V adF h S.val, casV_F] at hc; simpa using hc
      rw [if_pos hF]
      obtain ⟨a1, a2⟩ := aft_cs adF h (nextW h to) hc S.val S.rel.nodup hl
      refine ⟨nn, _, a1, ⟨hun, hu, by simp, hto⟩, ?_⟩
      rw [← a2]
      exact ref3_push_yes (q := p) hBm hBe hep heb S.pr R hu hc (by omega) h0 h1
    · have hc' : casA L adF h = false := by simpa using hc
      have hF : ¬ M.V adF = h := by rw [casA_V adF h S.val, casV_F] at hc'; simpa using hc'
      rw [if_neg hF]
      obtain ⟨a1, a2⟩ := aft_cs adF h (nextW h to) hc' S.val S.rel.nodup hl
      refine ⟨nn, _, a1, ⟨hun, hu, by simp, hto⟩, ?_⟩
      rw [← a2]
      exact ref3_push_no (q := p) hBm hBe hep heb S.pr R hu hc' (by omega) h0 h1
end
end Go.Proofs.YtmjcbjcnmgleaaaGreatDoor
