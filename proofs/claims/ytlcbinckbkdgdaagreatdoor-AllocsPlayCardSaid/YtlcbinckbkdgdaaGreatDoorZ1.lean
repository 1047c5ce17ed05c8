/-
  The document's memory behind one of its calls, in words; a Pop and a Push of the document in plain words; condition: both memories say the same, the operation lies as it says.
  The document's Park of layer 8 in plain words: each step is the plain one's; condition: both memories say the same, the Park lies as it says, numbers of their kinds. The document's Free in plain words: each step is the plain one's; condition: both memories say the same, the Free lies as it says, numbers of their kinds. The document's Alloc in plain words: each step is the plain one's; condition: both memories say the same, the Alloc lies as it says, numbers of their kinds.
-/
import Derived.Test.YtlcbinckbkdgdaaGreatDoorA3
import Derived.Test.YtlcbinckbkdgdaaGreatDoorY3
import Derived.Test.YtlcbinckbkdgdaaGreatDoorB12
namespace Go.Proofs.YtlcbinckbkdgdaaGreatDoor
open Go.RowKit Go.Maps

/-- The document's words are that. -/
def AftP (L : List (Ad × Int)) (c : Nat) (M : MV) : Prop := (∀ x, vals L x = M.V x) ∧ L.length ≤ c ∧ (L.map Prod.fst).Nodup
section
variable {B p m b n c e K : Nat} {D : DataW Unit} {s : Acc8} {L : List (Ad × Int)} {M : MV} {w w' : World} {o : OS}
theorem vals_storeA (x : Ad) (v : Int) {V : Ad → Int} (hv : ∀ y, vals L y = V y) (y : Ad) : vals (storeA L x v) y = setV V x v y := by
  unfold storeA setV
  by_cases hm : mayB x.k x.a x.f = true
  · rw [if_pos hm, vals_put]
    by_cases e : x = y
    · rw [if_pos e, if_pos ⟨hm, (eqA_iff y x).2 e.symm⟩]
    · rw [if_neg e, if_neg (fun h => e ((eqA_iff y x).1 h.2).symm), hv]
  · rw [if_neg hm, if_neg (fun h => hm h.1), hv]
theorem casA_V (x : Ad) (u : Int) {V : Ad → Int} (hv : ∀ y, vals L y = V y) : casA L x u = casV V x u := by unfold casA casV; rw [hv]
theorem vals_casL (x : Ad) (u v : Int) {V : Ad → Int} (hv : ∀ y, vals L y = V y) (y : Ad) : vals (casL L x u v) y = csV V x u v y := by
  unfold casL csV
  rw [casA_V x u hv]
  by_cases hc : casV V x u = true
  · rw [if_pos hc, if_pos hc]
    have hm : mayB x.k x.a x.f = true := by unfold casV at hc; simp at hc; exact hc.1
    have := vals_storeA x v hv y
    rw [show storeA L x v = putA L x v from if_pos hm] at this
    exact this
  · rw [if_neg hc, if_neg hc, hv]
theorem storeA_nodup (h : (L.map Prod.fst).Nodup) (x : Ad) (v : Int) : ((storeA L x v).map Prod.fst).Nodup := by
  unfold storeA
  split
  · exact putA_nodup L x v h
  · exact h
theorem casL_nodup (h : (L.map Prod.fst).Nodup) (x : Ad) (u v : Int) : ((casL L x u v).map Prod.fst).Nodup := by
  unfold casL
  split
  · exact putA_nodup L x v h
  · exact h
theorem aft_ld {v : Int} (x : Ad) (hv : ∀ y, vals L y = M.V y) (hn : (L.map Prod.fst).Nodup) (hc : L.length ≤ c) (e : vals L x = v) : AftP L (c + 1) (ldM M x) ∧ M.s.touch 1 x v v false = (ldM M x).s := by
  subst e
  rw [hv]
  exact ⟨⟨hv, by omega, hn⟩, rfl⟩
theorem aft_st (x : Ad) (v : Int) (hv : ∀ y, vals L y = M.V y) (hn : (L.map Prod.fst).Nodup) (hc : L.length ≤ c) : AftP (storeA L x v) (c + 1) (stM M x v) ∧ M.s.touch 2 x (vals L x) (vals (storeA L x v) x) false = (stM M x v).s := by
  have hv' := vals_storeA x v hv
  rw [hv, hv']
  exact ⟨⟨hv', Nat.le_trans (storeA_len L x v) (by omega), storeA_nodup hn x v⟩, rfl⟩
theorem aft_cs (x : Ad) (u v : Int) {cc : Bool} (hcc : casA L x u = cc) (hv : ∀ y, vals L y = M.V y) (hn : (L.map Prod.fst).Nodup) (hc : L.length ≤ c) : AftP (casL L x u v) (c + 1) (csM M x u v) ∧ M.s.touch 3 x (vals L x) (vals (casL L x u v) x) cc = (csM M x u v).s := by
  subst hcc
  have hv' := vals_casL x u v hv
  rw [hv, hv', casA_V x u hv]
  exact ⟨⟨hv', Nat.le_trans (casL_len L x u v) (by omega), casL_nodup hn x u v⟩, rfl⟩
/-- The document's Pop, and its Push, as the plain one. -/
def PopD (e : Nat) (o : OS) (w : World) : Prop := ∃ sl got nn, RefAt e false sl o.nx got o.h nn w ∧ PopOk o.nx o.h o.to sl got nn
def PushD (e : Nat) (o : OS) (w : World) : Prop := ∃ nn, RefAt e true o.to o.nx false o.h nn w ∧ U64 nn ∧ U64 o.h ∧ (0 ≤ o.nx ∧ o.nx ≤ 3) ∧ (0 ≤ o.to ∧ o.to < 256)
/-- What it needs: both memories say the same. -/
structure Say (p m b n : Nat) (D : DataW Unit) (L : List (Ad × Int)) (c : Nat) (M : MV) (w : World) : Prop where
  pr : Pr p m b n D M.s L M.s w
  rel : Rel D L
  val : ∀ x, vals L x = M.V x
  len : L.length ≤ c
  st0 : 0 ≤ M.s.st
  st1 : M.s.st < 1000000
theorem Say.u64 (S : Say p m b n D L c M w) (x : Ad) : U64 (M.V x) := by rw [← S.val]; exact S.pr.val_u64 S.rel x
theorem Say.aft (S : Say p m b n D L c M w) : AftP L (c + 1) M := ⟨S.val, by have := S.len; omega, S.rel.nodup⟩
theorem popX_1 {h to : Int} : popX ⟨1, h, to⟩ M = (⟨if wSlot (M.V adF) < 0 then 0 else 2, M.V adF, to⟩, ldM M adF) := rfl
theorem popX_2 {h to : Int} : popX ⟨2, h, to⟩ M = (⟨3, h, wSlot (M.V (adS (wSlot h)))⟩, ldM M (adS (wSlot h))) := rfl
theorem popX_3 {h to : Int} : popX ⟨3, h, to⟩ M = (⟨if M.V adF = h then 0 else 1, h, to⟩, csM M adF h (nextW h to)) := rfl
theorem popX_0 {h to : Int} : popX ⟨0, h, to⟩ M = (⟨0, h, to⟩, M) := rfl
theorem pushX_1 {h to : Int} : pushX ⟨1, h, to⟩ M = (⟨2, M.V adF, to⟩, ldM M adF) := rfl
theorem pushX_2 {h to : Int} : pushX ⟨2, h, to⟩ M = (⟨3, h, to⟩, stM M (adS to) (headW (wSlot h) 0)) := rfl
theorem pushX_3 {h to : Int} : pushX ⟨3, h, to⟩ M = (⟨if M.V adF = h then 0 else 1, h, to⟩, csM M adF h (nextW h to)) := rfl
theorem pushX_0 {h to : Int} : pushX ⟨0, h, to⟩ M = (⟨0, h, to⟩, M) := rfl
/-- What a step of a Pop or a Push leaves, as the parts ask it. -/
def OpZ (B p m b n : Nat) (D : DataW Unit) (s : Acc8) (e : Nat) (psh : Bool) (sl ln : Int) (got : Bool) (h nn : Int) (L' : List (Ad × Int)) (r' : Acc8) (w : World) (ee : Ending) (w' : World) : Prop := ee = .returned (.tuple #[]) ∧ RefAt e psh sl ln got h nn w' ∧ Pr p m b n D s L' r' w' ∧ Fx B p b p e w w'
theorem pop_doc (hBm : B ≤ m) (hBe : B ≤ e) (hc : c ≤ 900) (S : Say p m b n D L c M w) (R : PopD e o w) :
    ∃ sl got nn L', AftP L' (c + 1) (popX o M).2 ∧ PopOk (popX o M).1.nx (popX o M).1.h (popX o M).1.to sl got nn ∧ Calls Tryz.prog 52 #[.pointer (some ⟨e, 0, none⟩), .pointer (some ⟨b, 0, none⟩)] w (OpZ B p m b n D M.s e false sl (popX o M).1.nx got (popX o M).1.h nn L' (popX o M).2.s w) := by
  obtain ⟨nx, h, to⟩ := o
  obtain ⟨sl, got, nn, R, hu, hun, ok⟩ := R
  obtain ⟨hep, heb⟩ := R.ne_pr S.pr
  have hBw : B ≤ w.heap.size := Nat.le_trans hBe (Nat.le_of_lt R.lt)
  have hl := S.len
  have h0 := S.st0
  have h1 := S.st1
  simp only at R hu hun ok
  rcases ok with ⟨rfl, rfl⟩ | ⟨rfl, rfl, hs⟩ | ⟨rfl, rfl, hs, rfl⟩ | ⟨rfl, rfl, hs⟩ | ⟨rfl, rfl, hs, hsl⟩
  · rw [popX_1, ← S.val]
    obtain ⟨a1, a2⟩ := aft_ld adF S.val S.rel.nodup hl rfl
    refine ⟨sl, false, nn, L, a1, ⟨S.pr.val_u64 S.rel adF, hun, ?_⟩, ?_⟩
    · by_cases hs : wSlot (vals L adF) < 0
      · simp only [if_pos hs]; exact .inr (.inr (.inr (.inl ⟨trivial, trivial, hs⟩)))
      · simp only [if_neg hs]; exact .inr (.inl ⟨trivial, trivial, by omega⟩)
    · rw [← a2]
      exact ref1_to (q := p) (ln' := if wSlot (vals L adF) < 0 then 0 else 2) hBm hBe hep heb S.pr S.rel R hu rfl (by simp) (by omega) h0 h1
  · rw [popX_2, adS_eq (i64w_slot h)]
    obtain ⟨a1, a2⟩ := aft_ld (adL (wSlot h) (i64w_slot h)) S.val S.rel.nodup hl rfl
    refine ⟨sl, false, _, L, a1, ⟨hu, S.pr.val_u64 S.rel _, .inr (.inr (.inl ⟨rfl, rfl, hs, by rw [S.val]⟩))⟩, ?_⟩
    rw [← a2]
    exact ref2_pop (q := p) hBm hBe hep heb S.pr R hu rfl (by omega) h0 h1
  · rw [popX_3]
    by_cases hc : casA L adF h = true
    · have hF : M.V adF = h := by rw [casA_V adF h S.val, casV_F] at hc; simpa using hc
      rw [if_pos hF]
      obtain ⟨a1, a2⟩ := aft_cs adF h (nextW h (wSlot nn)) hc S.val S.rel.nodup hl
      refine ⟨_, true, nn, _, a1, ⟨hu, hun, .inr (.inr (.inr (.inr ⟨rfl, rfl, hs, rfl⟩)))⟩, ?_⟩
      rw [← a2]
      exact ref3_pop_yes (q := p) hBm hBe hep heb S.pr R hu hc hun (by omega) h0 h1
    · have hc' : casA L adF h = false := by simpa using hc
      have hF : ¬ M.V adF = h := by rw [casA_V adF h S.val, casV_F] at hc'; simpa using hc'
      rw [if_neg hF]
      obtain ⟨a1, a2⟩ := aft_cs adF h (nextW h (wSlot nn)) hc' S.val S.rel.nodup hl
      refine ⟨sl, false, nn, _, a1, ⟨hu, hun, .inl ⟨rfl, rfl⟩⟩, ?_⟩
      rw [← a2]
      exact ref3_pop_no (q := p) hBm hBe hep heb S.pr R hu hc' hun (by omega) h0 h1
  · rw [popX_0]
    refine ⟨sl, false, nn, L, S.aft, ⟨hu, hun, .inr (.inr (.inr (.inl ⟨rfl, rfl, hs⟩)))⟩, (ref0_any (b := b) hu R).mono ?_⟩
    rintro ee w1 ⟨rfl, hb⟩
    exact ⟨rfl, R.below hb, S.pr.below hb, .of_below hb hBw⟩
  · rw [popX_0]
    refine ⟨sl, true, nn, L, S.aft, ⟨hu, hun, .inr (.inr (.inr (.inr ⟨rfl, rfl, hs, hsl⟩)))⟩, (ref0_any (b := b) hu R).mono ?_⟩
    rintro ee w1 ⟨rfl, hb⟩
    exact ⟨rfl, R.below hb, S.pr.below hb, .of_below hb hBw⟩
theorem push_doc (hBm : B ≤ m) (hBe : B ≤ e) (hc : c ≤ 900) (S : Say p m b n D L c M w) (R : PushD e o w) :
    ∃ nn L', AftP L' (c + 1) (pushX o M).2 ∧ (U64 nn ∧ U64 (pushX o M).1.h ∧ (0 ≤ (pushX o M).1.nx ∧ (pushX o M).1.nx ≤ 3) ∧ (0 ≤ (pushX o M).1.to ∧ (pushX o M).1.to < 256)) ∧ Calls Tryz.prog 52 #[.pointer (some ⟨e, 0, none⟩), .pointer (some ⟨b, 0, none⟩)] w (OpZ B p m b n D M.s e true (pushX o M).1.to (pushX o M).1.nx false (pushX o M).1.h nn L' (pushX o M).2.s w) := by
  obtain ⟨nx, h, to⟩ := o
  obtain ⟨nn, R, hun, hu, hnx, hto⟩ := R
  obtain ⟨hep, heb⟩ := R.ne_pr S.pr
  have hBw : B ≤ w.heap.size := Nat.le_trans hBe (Nat.le_of_lt R.lt)
  have hl := S.len
  have h0 := S.st0
  have h1 := S.st1
  simp only at R hun hu hnx hto
  obtain rfl | rfl | rfl | rfl : nx = 0 ∨ nx = 1 ∨ nx = 2 ∨ nx = 3 := by omega
  · rw [pushX_0]
    refine ⟨nn, L, S.aft, ⟨hun, hu, by simp, hto⟩, (ref0_any (b := b) hu R).mono ?_⟩
    rintro ee w1 ⟨rfl, hb⟩
    exact ⟨rfl, R.below hb, S.pr.below hb, .of_below hb hBw⟩
  · rw [pushX_1, ← S.val]
    obtain ⟨a1, a2⟩ := aft_ld adF S.val S.rel.nodup hl rfl
    refine ⟨nn, L, a1, ⟨hun, S.pr.val_u64 S.rel adF, by simp, hto⟩, ?_⟩
    rw [← a2]
    exact ref1_to (q := p) (ln' := 2) hBm hBe hep heb S.pr S.rel R hu rfl (by simp) (by omega) h0 h1
  · have hw : I64w to := i64w_in (by omega) (by omega)
    rw [pushX_2, adS_eq hw]
    obtain ⟨a1, a2⟩ := aft_st (adL to hw) (headW (wSlot h) 0) S.val S.rel.nodup hl
    refine ⟨nn, _, a1, ⟨hun, hu, by simp, hto⟩, ?_⟩
    rw [← a2]
    exact ref2_push (q := p) hBm hBe hep heb S.pr R hu hw (by omega) h0 h1
  · rw [pushX_3]
    by_cases hc : casA L adF h = true
    · have hF : M.V adF = h := by rw [casA_V adF h S.val, casV_F] at hc; simpa using hc
      rw [if_pos hF]
      obtain ⟨a1, a2⟩ := aft_cs adF h (nextW h to) hc S.val S.rel.nodup hl
      refine ⟨nn, _, a1, ⟨hun, hu, by simp, hto⟩, ?_⟩
      rw [← a2]
      exact ref3_push_yes (q := p) hBm hBe hep heb S.pr R hu hc (by omega) h0 h1
    · have hc' : casA L adF h = false := by simpa using hc
      have hF : ¬ M.V adF = h := by rw [casA_V adF h S.val, casV_F] at hc'; simpa using hc'
      rw [if_neg hF]
      obtain ⟨a1, a2⟩ := aft_cs adF h (nextW h to) hc' S.val S.rel.nodup hl
      refine ⟨nn, _, a1, ⟨hun, hu, by simp, hto⟩, ?_⟩
      rw [← a2]
      exact ref3_push_no (q := p) hBm hBe hep heb S.pr R hu hc' (by omega) h0 h1
end
end Go.Proofs.YtlcbinckbkdgdaaGreatDoor
namespace Go.Proofs.YtlcbinckbkdgdaaGreatDoor
open Go.RowKit Go.Maps

theorem adH_eq {s : Int} (h : 0 ≤ s ∧ s < 256) : adH s = ad9 s (i64_slot h) 0 f0w := dif_pos (show (Lit.int .i64 s).wf = true from i64_slot h)
theorem adB_eq {s : Int} (h : 0 ≤ s ∧ s < 256) : adB s = ad9 s (i64_slot h) 1 f1w := dif_pos (show (Lit.int .i64 s).wf = true from i64_slot h)
theorem adP_eq {s : Int} (h : 0 ≤ s ∧ s < 256) : adP (segF s) = ad6 (s / 8) (seg_of h).2.2 1 f1w := dif_pos (show (Lit.int .i64 (s / 8)).wf = true from (seg_of h).2.2)
theorem adG_eq {s : Int} (h : 0 ≤ s ∧ s < 256) : adG (segF s) = ad6 (s / 8) (seg_of h).2.2 0 f0w := dif_pos (show (Lit.int .i64 (s / 8)).wf = true from (seg_of h).2.2)
theorem adEr_eq : adEr = adE := rfl
theorem down_wrap' (n : Int) : IntKind.u64.wrap (n - 1) = down64 n := by rw [IntKind.wrap_u64]; rfl
theorem Bk.ne_pr {K p m b n : Nat} {t : TypeId} {cs : List Value} {D : DataW Unit} {s r : Acc8} {L : List (Ad × Int)} {w : World} (k : Bk K t cs w) (hP : Pr p m b n D s L r w) (h1 : t ≠ 110) (h2 : t ≠ 74) : K ≠ p ∧ K ≠ b := by
  obtain ⟨v, hr⟩ := hP.ref
  constructor
  · rintro rfl
    have := hP.prog.blk.symm.trans k
    simp only [Option.some.injEq, Obj.cells.injEq] at this
    exact h1 this.2.1.symm
  · rintro rfl
    have := hr.blk.symm.trans k
    simp only [Option.some.injEq, Obj.cells.injEq] at this
    exact h2 this.2.1.symm
theorem Bk.ne_ref {K e : Nat} {t : TypeId} {cs : List Value} {psh got : Bool} {sl nx h nn : Int} {w : World} (k : Bk K t cs w) (R : RefAt e psh sl nx got h nn w) (h1 : t ≠ 120) : K ≠ e := by
  rintro rfl
  have := Eq.trans (Eq.symm k) R
  simp only [Option.some.injEq, Obj.cells.injEq] at this
  exact h1 this.2.1
/-- The document's Park, as the plain one; its Push in block e. -/
def PkD (B K e : Nat) (o : PO) (w : World) : Prop := B ≤ K ∧ B ≤ e ∧ ∃ pu, Bk K 96 (PkC o.sl o.ln o.st o.w o.n pu) w ∧ (o.ln = 10 → pu = some ⟨e, 0, none⟩ ∧ PushD e o.psh w)
/-- Behind its step: its Push, if it has come to that; a new one lies behind n0. -/
def PkR (K e n0 : Nat) (o : PO) (pu : Option Addr) (w : World) : Prop := o.ln = 10 → ∃ e', pu = some ⟨e', 0, none⟩ ∧ PushD e' o.psh w ∧ K ≠ e' ∧ (e' = e ∨ n0 ≤ e')
/-- What its step leaves. -/
def PkS (B p m b n : Nat) (D : DataW Unit) (s : Acc8) (K e : Nat) (o : PO) (L' : List (Ad × Int)) (r' : Acc8) (w : World) (ee : Ending) (w' : World) : Prop := ee = .returned (.tuple #[]) ∧ (∃ pu, Bk K 96 (PkC o.sl o.ln o.st o.w o.n pu) w' ∧ PkR K e w.heap.size o pu w') ∧ Pr p m b n D s L' r' w' ∧ FxL B p b [K, e] w w'
section
variable {B p m b n c e K : Nat} {D : DataW Unit} {L : List (Ad × Int)} {M : MV} {o : PO} {pu : Option Addr} {w w' : World}
theorem pkd1 (hBm : B ≤ m) (hc : c ≤ 900) (S : Say p m b n D L c M w) (ok : PkNum o) (h : o.ln = 1) (hBK : B ≤ K) (k : Bk K 96 (PkC o.sl o.ln o.st o.w o.n pu) w) :
    ∃ L', AftP L' (c + 1) (parkX o M).2 ∧ Calls Tryz.prog 35 #[.pointer (some ⟨K, 0, none⟩), .pointer (some ⟨b, 0, none⟩)] w (PkS B p m b n D M.s K e (parkX o M).1 L' (parkX o M).2.s w) := by
  have e1 : parkX o M = ({ o with ln := 2, w := M.V (adH o.sl) }, ldM M (adH o.sl)) := by unfold parkX; rw [if_pos h]
  rw [e1]
  obtain ⟨hKp, hKb⟩ := k.ne_pr S.pr (by decide) (by decide)
  have hl := S.len
  have h0 := S.st0
  have h1 := S.st1
  rw [h] at k
  rw [adH_eq ok.sl]
  obtain ⟨a1, a2⟩ := aft_ld (ad9 o.sl (i64_slot ok.sl) 0 f0w) S.val S.rel.nodup hl (S.val _)
  refine ⟨_, a1, ?_⟩
  rw [← a2]
  refine (park_1 hBm hBK hKp hKb S.pr k ok.w ok.sl (S.val _) (by omega) h0 h1).mono ?_
  rintro ee w' ⟨rfl, k', P', f'⟩
  exact ⟨rfl, ⟨pu, k', fun hh => absurd hh (by simp)⟩, P', f'.more (by simp)⟩
theorem pkd3 (hBm : B ≤ m) (hc : c ≤ 900) (S : Say p m b n D L c M w) (ok : PkNum o) (h : o.ln = 3) (hBK : B ≤ K) (k : Bk K 96 (PkC o.sl o.ln o.st o.w o.n pu) w) :
    ∃ L', AftP L' (c + 1) (parkX o M).2 ∧ Calls Tryz.prog 35 #[.pointer (some ⟨K, 0, none⟩), .pointer (some ⟨b, 0, none⟩)] w (PkS B p m b n D M.s K e (parkX o M).1 L' (parkX o M).2.s w) := by
  have e1 : parkX o M = ({ o with ln := 4, n := M.V (adP (segF o.sl)) }, ldM M (adP (segF o.sl))) := by unfold parkX; rw [if_neg (by omega), if_neg (by omega), if_pos h]
  rw [e1]
  obtain ⟨hKp, hKb⟩ := k.ne_pr S.pr (by decide) (by decide)
  have hl := S.len
  have h0 := S.st0
  have h1 := S.st1
  rw [h] at k
  rw [adP_eq ok.sl]
  obtain ⟨a1, a2⟩ := aft_ld (ad6 (o.sl / 8) (seg_of ok.sl).2.2 1 f1w) S.val S.rel.nodup hl (S.val _)
  refine ⟨_, a1, ?_⟩
  rw [← a2]
  refine (park_3 hBm hBK hKp hKb S.pr k ok.w ok.sl (S.val _) (by omega) h0 h1).mono ?_
  rintro ee w' ⟨rfl, k', P', f'⟩
  exact ⟨rfl, ⟨pu, k', fun hh => absurd hh (by simp)⟩, P', f'.more (by simp)⟩
theorem pkd6 (hBm : B ≤ m) (hc : c ≤ 900) (S : Say p m b n D L c M w) (ok : PkNum o) (h : o.ln = 6) (hBK : B ≤ K) (k : Bk K 96 (PkC o.sl o.ln o.st o.w o.n pu) w) :
    ∃ L', AftP L' (c + 1) (parkX o M).2 ∧ Calls Tryz.prog 35 #[.pointer (some ⟨K, 0, none⟩), .pointer (some ⟨b, 0, none⟩)] w (PkS B p m b n D M.s K e (parkX o M).1 L' (parkX o M).2.s w) := by
  have e1 : parkX o M = ({ o with ln := 7, n := M.V (adP (segF o.sl)) }, ldM M (adP (segF o.sl))) := by unfold parkX; rw [if_neg (by omega), if_neg (by omega), if_neg (by omega), if_neg (by omega), if_neg (by omega), if_pos h]
  rw [e1]
  obtain ⟨hKp, hKb⟩ := k.ne_pr S.pr (by decide) (by decide)
  have hl := S.len
  have h0 := S.st0
  have h1 := S.st1
  rw [h] at k
  rw [adP_eq ok.sl]
  obtain ⟨a1, a2⟩ := aft_ld (ad6 (o.sl / 8) (seg_of ok.sl).2.2 1 f1w) S.val S.rel.nodup hl (S.val _)
  refine ⟨_, a1, ?_⟩
  rw [← a2]
  refine (park_6 hBm hBK hKp hKb S.pr k ok.w ok.sl (S.val _) (by omega) h0 h1).mono ?_
  rintro ee w' ⟨rfl, k', P', f'⟩
  exact ⟨rfl, ⟨pu, k', fun hh => absurd hh (by simp)⟩, P', f'.more (by simp)⟩
theorem pkd11 (hBm : B ≤ m) (hc : c ≤ 900) (S : Say p m b n D L c M w) (ok : PkNum o) (h : o.ln = 11) (hBK : B ≤ K) (k : Bk K 96 (PkC o.sl o.ln o.st o.w o.n pu) w) :
    ∃ L', AftP L' (c + 1) (parkX o M).2 ∧ Calls Tryz.prog 35 #[.pointer (some ⟨K, 0, none⟩), .pointer (some ⟨b, 0, none⟩)] w (PkS B p m b n D M.s K e (parkX o M).1 L' (parkX o M).2.s w) := by
  have e1 : parkX o M = ({ o with ln := 12, n := M.V (adP (segF o.sl)) }, ldM M (adP (segF o.sl))) := by unfold parkX; rw [if_neg (by omega), if_neg (by omega), if_neg (by omega), if_neg (by omega), if_neg (by omega), if_neg (by omega), if_neg (by omega), if_neg (by omega), if_neg (by omega), if_neg (by omega), if_pos h]
  rw [e1]
  obtain ⟨hKp, hKb⟩ := k.ne_pr S.pr (by decide) (by decide)
  have hl := S.len
  have h0 := S.st0
  have h1 := S.st1
  rw [h] at k
  rw [adP_eq ok.sl]
  obtain ⟨a1, a2⟩ := aft_ld (ad6 (o.sl / 8) (seg_of ok.sl).2.2 1 f1w) S.val S.rel.nodup hl (S.val _)
  refine ⟨_, a1, ?_⟩
  rw [← a2]
  refine (park_11 hBm hBK hKp hKb S.pr k ok.w ok.sl (S.val _) (by omega) h0 h1).mono ?_
  rintro ee w' ⟨rfl, k', P', f'⟩
  exact ⟨rfl, ⟨pu, k', fun hh => absurd hh (by simp)⟩, P', f'.more (by simp)⟩
theorem pkd2 (hBm : B ≤ m) (hc : c ≤ 900) (S : Say p m b n D L c M w) (ok : PkNum o) (h : o.ln = 2) (hBK : B ≤ K) (k : Bk K 96 (PkC o.sl o.ln o.st o.w o.n pu) w) :
    ∃ L', AftP L' (c + 1) (parkX o M).2 ∧ Calls Tryz.prog 35 #[.pointer (some ⟨K, 0, none⟩), .pointer (some ⟨b, 0, none⟩)] w (PkS B p m b n D M.s K e (parkX o M).1 L' (parkX o M).2.s w) := by
  have e1 : parkX o M = ({ o with ln := 3 }, stM M (adH o.sl) (headerW 3 (gW o.w))) := by unfold parkX; rw [if_neg (by omega), if_pos h]
  rw [e1]
  obtain ⟨hKp, hKb⟩ := k.ne_pr S.pr (by decide) (by decide)
  have hl := S.len
  have h0 := S.st0
  have h1 := S.st1
  rw [h] at k
  rw [adH_eq ok.sl]
  obtain ⟨a1, a2⟩ := aft_st (ad9 o.sl (i64_slot ok.sl) 0 f0w) (headerW 3 (gW o.w)) S.val S.rel.nodup hl
  refine ⟨_, a1, ?_⟩
  rw [← a2]
  refine (park_2 hBm hBK hKp hKb S.pr k ok.w ok.sl (by omega) h0 h1).mono ?_
  rintro ee w' ⟨rfl, k', P', f'⟩
  exact ⟨rfl, ⟨pu, k', fun hh => absurd hh (by simp)⟩, P', f'.more (by simp)⟩
theorem pkd5_stays (hBm : B ≤ m) (hc : c ≤ 900) (S : Say p m b n D L c M w) (ok : PkNum o) (h : o.ln = 5) (hBK : B ≤ K) (hq : M.V (adG (segF o.sl)) ≠ 1) (k : Bk K 96 (PkC o.sl o.ln o.st o.w o.n pu) w) :
    ∃ L', AftP L' (c + 1) (parkX o M).2 ∧ Calls Tryz.prog 35 #[.pointer (some ⟨K, 0, none⟩), .pointer (some ⟨b, 0, none⟩)] w (PkS B p m b n D M.s K e (parkX o M).1 L' (parkX o M).2.s w) := by
  have e1 : parkX o M = ({ o with ln := 0, st := true }, ldM M (adG (segF o.sl))) := by unfold parkX; rw [if_neg (by omega), if_neg (by omega), if_neg (by omega), if_neg (by omega), if_pos h]; simp [hq]
  rw [e1]
  obtain ⟨hKp, hKb⟩ := k.ne_pr S.pr (by decide) (by decide)
  have hl := S.len
  have h0 := S.st0
  have h1 := S.st1
  rw [h] at k
  rw [adG_eq ok.sl] at hq ⊢
  obtain ⟨a1, a2⟩ := aft_ld (ad6 (o.sl / 8) (seg_of ok.sl).2.2 0 f0w) S.val S.rel.nodup hl (S.val _)
  refine ⟨_, a1, ?_⟩
  rw [← a2]
  refine (park_5_stays hBm hBK hKp hKb S.pr k ok.w ok.sl (S.val _) hq (by omega) h0 h1).mono ?_
  rintro ee w' ⟨rfl, k', P', f'⟩
  exact ⟨rfl, ⟨pu, k', fun hh => absurd hh (by simp)⟩, P', f'.more (by simp)⟩
theorem pkd5_on (hBm : B ≤ m) (hc : c ≤ 900) (S : Say p m b n D L c M w) (ok : PkNum o) (h : o.ln = 5) (hBK : B ≤ K) (hq : M.V (adG (segF o.sl)) = 1) (k : Bk K 96 (PkC o.sl o.ln o.st o.w o.n pu) w) :
    ∃ L', AftP L' (c + 1) (parkX o M).2 ∧ Calls Tryz.prog 35 #[.pointer (some ⟨K, 0, none⟩), .pointer (some ⟨b, 0, none⟩)] w (PkS B p m b n D M.s K e (parkX o M).1 L' (parkX o M).2.s w) := by
  have e1 : parkX o M = ({ o with ln := 6 }, ldM M (adG (segF o.sl))) := by unfold parkX; rw [if_neg (by omega), if_neg (by omega), if_neg (by omega), if_neg (by omega), if_pos h]; simp [hq]
  rw [e1]
  obtain ⟨hKp, hKb⟩ := k.ne_pr S.pr (by decide) (by decide)
  have hl := S.len
  have h0 := S.st0
  have h1 := S.st1
  rw [h] at k
  rw [adG_eq ok.sl] at hq ⊢
  obtain ⟨a1, a2⟩ := aft_ld (ad6 (o.sl / 8) (seg_of ok.sl).2.2 0 f0w) S.val S.rel.nodup hl (S.val _)
  refine ⟨_, a1, ?_⟩
  rw [← a2]
  refine (park_5_on hBm hBK hKp hKb S.pr k ok.w ok.sl (S.val _) hq (by omega) h0 h1).mono ?_
  rintro ee w' ⟨rfl, k', P', f'⟩
  exact ⟨rfl, ⟨pu, k', fun hh => absurd hh (by simp)⟩, P', f'.more (by simp)⟩
theorem pkd8_on (hBm : B ≤ m) (hc : c ≤ 900) (S : Say p m b n D L c M w) (ok : PkNum o) (h : o.ln = 8) (hBK : B ≤ K) (hq : M.V (adG (segF o.sl)) = 1) (k : Bk K 96 (PkC o.sl o.ln o.st o.w o.n pu) w) :
    ∃ L', AftP L' (c + 1) (parkX o M).2 ∧ Calls Tryz.prog 35 #[.pointer (some ⟨K, 0, none⟩), .pointer (some ⟨b, 0, none⟩)] w (PkS B p m b n D M.s K e (parkX o M).1 L' (parkX o M).2.s w) := by
  have e1 : parkX o M = ({ o with ln := 9 }, ldM M (adG (segF o.sl))) := by unfold parkX; rw [if_neg (by omega), if_neg (by omega), if_neg (by omega), if_neg (by omega), if_neg (by omega), if_neg (by omega), if_neg (by omega), if_pos h]; simp [hq]
  rw [e1]
  obtain ⟨hKp, hKb⟩ := k.ne_pr S.pr (by decide) (by decide)
  have hl := S.len
  have h0 := S.st0
  have h1 := S.st1
  rw [h] at k
  rw [adG_eq ok.sl] at hq ⊢
  obtain ⟨a1, a2⟩ := aft_ld (ad6 (o.sl / 8) (seg_of ok.sl).2.2 0 f0w) S.val S.rel.nodup hl (S.val _)
  refine ⟨_, a1, ?_⟩
  rw [← a2]
  refine (park_8_on hBm hBK hKp hKb S.pr k ok.w ok.sl (S.val _) hq (by omega) h0 h1).mono ?_
  rintro ee w' ⟨rfl, k', P', f'⟩
  exact ⟨rfl, ⟨pu, k', fun hh => absurd hh (by simp)⟩, P', f'.more (by simp)⟩
theorem pkd8_back (hBm : B ≤ m) (hc : c ≤ 900) (S : Say p m b n D L c M w) (ok : PkNum o) (h : o.ln = 8) (hBK : B ≤ K) (hq : M.V (adG (segF o.sl)) ≠ 1) (k : Bk K 96 (PkC o.sl o.ln o.st o.w o.n pu) w) :
    ∃ L', AftP L' (c + 1) (parkX o M).2 ∧ Calls Tryz.prog 35 #[.pointer (some ⟨K, 0, none⟩), .pointer (some ⟨b, 0, none⟩)] w (PkS B p m b n D M.s K e (parkX o M).1 L' (parkX o M).2.s w) := by
  have e1 : parkX o M = ({ o with ln := 3 }, ldM M (adG (segF o.sl))) := by unfold parkX; rw [if_neg (by omega), if_neg (by omega), if_neg (by omega), if_neg (by omega), if_neg (by omega), if_neg (by omega), if_neg (by omega), if_pos h]; simp [hq]
  rw [e1]
  obtain ⟨hKp, hKb⟩ := k.ne_pr S.pr (by decide) (by decide)
  have hl := S.len
  have h0 := S.st0
  have h1 := S.st1
  rw [h] at k
  rw [adG_eq ok.sl] at hq ⊢
  obtain ⟨a1, a2⟩ := aft_ld (ad6 (o.sl / 8) (seg_of ok.sl).2.2 0 f0w) S.val S.rel.nodup hl (S.val _)
  refine ⟨_, a1, ?_⟩
  rw [← a2]
  refine (park_8_back hBm hBK hKp hKb S.pr k ok.w ok.sl (S.val _) hq (by omega) h0 h1).mono ?_
  rintro ee w' ⟨rfl, k', P', f'⟩
  exact ⟨rfl, ⟨pu, k', fun hh => absurd hh (by simp)⟩, P', f'.more (by simp)⟩
theorem pkd4_yes (hBm : B ≤ m) (hc : c ≤ 900) (S : Say p m b n D L c M w) (ok : PkNum o) (h : o.ln = 4) (hBK : B ≤ K) (hq : casV M.V (adP (segF o.sl)) o.n = true) (k : Bk K 96 (PkC o.sl o.ln o.st o.w o.n pu) w) :
    ∃ L', AftP L' (c + 1) (parkX o M).2 ∧ Calls Tryz.prog 35 #[.pointer (some ⟨K, 0, none⟩), .pointer (some ⟨b, 0, none⟩)] w (PkS B p m b n D M.s K e (parkX o M).1 L' (parkX o M).2.s w) := by
  have e1 : parkX o M = ({ o with ln := 5 }, csM M (adP (segF o.sl)) o.n (up64 o.n)) := by unfold parkX; rw [if_neg (by omega), if_neg (by omega), if_neg (by omega), if_pos h]; simp [hq]
  rw [e1]
  obtain ⟨hKp, hKb⟩ := k.ne_pr S.pr (by decide) (by decide)
  have hl := S.len
  have h0 := S.st0
  have h1 := S.st1
  rw [h] at k
  rw [adP_eq ok.sl] at hq ⊢
  have hc' := (casA_V _ o.n S.val).trans hq
  obtain ⟨a1, a2⟩ := aft_cs (ad6 (o.sl / 8) (seg_of ok.sl).2.2 1 f1w) o.n (up64 o.n) hc' S.val S.rel.nodup hl
  refine ⟨_, a1, ?_⟩
  rw [← a2]
  refine (park_4_yes hBm hBK hKp hKb S.pr k ok.w ok.sl (up_wrap o.n) hc' (by omega) h0 h1).mono ?_
  rintro ee w' ⟨rfl, k', P', f'⟩
  exact ⟨rfl, ⟨pu, k', fun hh => absurd hh (by simp)⟩, P', f'.more (by simp)⟩
theorem pkd4_no (hBm : B ≤ m) (hc : c ≤ 900) (S : Say p m b n D L c M w) (ok : PkNum o) (h : o.ln = 4) (hBK : B ≤ K) (hq : casV M.V (adP (segF o.sl)) o.n = false) (k : Bk K 96 (PkC o.sl o.ln o.st o.w o.n pu) w) :
    ∃ L', AftP L' (c + 1) (parkX o M).2 ∧ Calls Tryz.prog 35 #[.pointer (some ⟨K, 0, none⟩), .pointer (some ⟨b, 0, none⟩)] w (PkS B p m b n D M.s K e (parkX o M).1 L' (parkX o M).2.s w) := by
  have e1 : parkX o M = ({ o with ln := 3 }, csM M (adP (segF o.sl)) o.n (up64 o.n)) := by unfold parkX; rw [if_neg (by omega), if_neg (by omega), if_neg (by omega), if_pos h]; simp [hq]
  rw [e1]
  obtain ⟨hKp, hKb⟩ := k.ne_pr S.pr (by decide) (by decide)
  have hl := S.len
  have h0 := S.st0
  have h1 := S.st1
  rw [h] at k
  rw [adP_eq ok.sl] at hq ⊢
  have hc' := (casA_V _ o.n S.val).trans hq
  obtain ⟨a1, a2⟩ := aft_cs (ad6 (o.sl / 8) (seg_of ok.sl).2.2 1 f1w) o.n (up64 o.n) hc' S.val S.rel.nodup hl
  refine ⟨_, a1, ?_⟩
  rw [← a2]
  refine (park_4_no hBm hBK hKp hKb S.pr k ok.w ok.sl (up_wrap o.n) hc' (by omega) h0 h1).mono ?_
  rintro ee w' ⟨rfl, k', P', f'⟩
  exact ⟨rfl, ⟨pu, k', fun hh => absurd hh (by simp)⟩, P', f'.more (by simp)⟩
theorem pkd7_yes (hBm : B ≤ m) (hc : c ≤ 900) (S : Say p m b n D L c M w) (ok : PkNum o) (h : o.ln = 7) (hBK : B ≤ K) (hq : casV M.V (adP (segF o.sl)) o.n = true) (k : Bk K 96 (PkC o.sl o.ln o.st o.w o.n pu) w) :
    ∃ L', AftP L' (c + 1) (parkX o M).2 ∧ Calls Tryz.prog 35 #[.pointer (some ⟨K, 0, none⟩), .pointer (some ⟨b, 0, none⟩)] w (PkS B p m b n D M.s K e (parkX o M).1 L' (parkX o M).2.s w) := by
  have e1 : parkX o M = ({ o with ln := 8 }, csM M (adP (segF o.sl)) o.n (down64 o.n)) := by unfold parkX; rw [if_neg (by omega), if_neg (by omega), if_neg (by omega), if_neg (by omega), if_neg (by omega), if_neg (by omega), if_pos h]; simp [hq]
  rw [e1]
  obtain ⟨hKp, hKb⟩ := k.ne_pr S.pr (by decide) (by decide)
  have hl := S.len
  have h0 := S.st0
  have h1 := S.st1
  rw [h] at k
  rw [adP_eq ok.sl] at hq ⊢
  have hc' := (casA_V _ o.n S.val).trans hq
  obtain ⟨a1, a2⟩ := aft_cs (ad6 (o.sl / 8) (seg_of ok.sl).2.2 1 f1w) o.n (down64 o.n) hc' S.val S.rel.nodup hl
  refine ⟨_, a1, ?_⟩
  rw [← a2]
  refine (park_7_yes hBm hBK hKp hKb S.pr k ok.w ok.sl (down_wrap' o.n) hc' (by omega) h0 h1).mono ?_
  rintro ee w' ⟨rfl, k', P', f'⟩
  exact ⟨rfl, ⟨pu, k', fun hh => absurd hh (by simp)⟩, P', f'.more (by simp)⟩
theorem pkd7_no (hBm : B ≤ m) (hc : c ≤ 900) (S : Say p m b n D L c M w) (ok : PkNum o) (h : o.ln = 7) (hBK : B ≤ K) (hq : casV M.V (adP (segF o.sl)) o.n = false) (k : Bk K 96 (PkC o.sl o.ln o.st o.w o.n pu) w) :
    ∃ L', AftP L' (c + 1) (parkX o M).2 ∧ Calls Tryz.prog 35 #[.pointer (some ⟨K, 0, none⟩), .pointer (some ⟨b, 0, none⟩)] w (PkS B p m b n D M.s K e (parkX o M).1 L' (parkX o M).2.s w) := by
  have e1 : parkX o M = ({ o with ln := 6 }, csM M (adP (segF o.sl)) o.n (down64 o.n)) := by unfold parkX; rw [if_neg (by omega), if_neg (by omega), if_neg (by omega), if_neg (by omega), if_neg (by omega), if_neg (by omega), if_pos h]; simp [hq]
  rw [e1]
  obtain ⟨hKp, hKb⟩ := k.ne_pr S.pr (by decide) (by decide)
  have hl := S.len
  have h0 := S.st0
  have h1 := S.st1
  rw [h] at k
  rw [adP_eq ok.sl] at hq ⊢
  have hc' := (casA_V _ o.n S.val).trans hq
  obtain ⟨a1, a2⟩ := aft_cs (ad6 (o.sl / 8) (seg_of ok.sl).2.2 1 f1w) o.n (down64 o.n) hc' S.val S.rel.nodup hl
  refine ⟨_, a1, ?_⟩
  rw [← a2]
  refine (park_7_no hBm hBK hKp hKb S.pr k ok.w ok.sl (down_wrap' o.n) hc' (by omega) h0 h1).mono ?_
  rintro ee w' ⟨rfl, k', P', f'⟩
  exact ⟨rfl, ⟨pu, k', fun hh => absurd hh (by simp)⟩, P', f'.more (by simp)⟩
theorem pkd12_yes (hBm : B ≤ m) (hc : c ≤ 900) (S : Say p m b n D L c M w) (ok : PkNum o) (h : o.ln = 12) (hBK : B ≤ K) (hq : casV M.V (adP (segF o.sl)) o.n = true) (k : Bk K 96 (PkC o.sl o.ln o.st o.w o.n pu) w) :
    ∃ L', AftP L' (c + 1) (parkX o M).2 ∧ Calls Tryz.prog 35 #[.pointer (some ⟨K, 0, none⟩), .pointer (some ⟨b, 0, none⟩)] w (PkS B p m b n D M.s K e (parkX o M).1 L' (parkX o M).2.s w) := by
  have e1 : parkX o M = ({ o with ln := 0 }, csM M (adP (segF o.sl)) o.n (up64 o.n)) := by unfold parkX; rw [if_neg (by omega), if_neg (by omega), if_neg (by omega), if_neg (by omega), if_neg (by omega), if_neg (by omega), if_neg (by omega), if_neg (by omega), if_neg (by omega), if_neg (by omega), if_neg (by omega), if_pos h]; simp [hq]
  rw [e1]
  obtain ⟨hKp, hKb⟩ := k.ne_pr S.pr (by decide) (by decide)
  have hl := S.len
  have h0 := S.st0
  have h1 := S.st1
  rw [h] at k
  rw [adP_eq ok.sl] at hq ⊢
  have hc' := (casA_V _ o.n S.val).trans hq
  obtain ⟨a1, a2⟩ := aft_cs (ad6 (o.sl / 8) (seg_of ok.sl).2.2 1 f1w) o.n (up64 o.n) hc' S.val S.rel.nodup hl
  refine ⟨_, a1, ?_⟩
  rw [← a2]
  refine (park_12_yes hBm hBK hKp hKb S.pr k ok.w ok.sl (up_wrap o.n) hc' (by omega) h0 h1).mono ?_
  rintro ee w' ⟨rfl, k', P', f'⟩
  exact ⟨rfl, ⟨pu, k', fun hh => absurd hh (by simp)⟩, P', f'.more (by simp)⟩
theorem pkd12_no (hBm : B ≤ m) (hc : c ≤ 900) (S : Say p m b n D L c M w) (ok : PkNum o) (h : o.ln = 12) (hBK : B ≤ K) (hq : casV M.V (adP (segF o.sl)) o.n = false) (k : Bk K 96 (PkC o.sl o.ln o.st o.w o.n pu) w) :
    ∃ L', AftP L' (c + 1) (parkX o M).2 ∧ Calls Tryz.prog 35 #[.pointer (some ⟨K, 0, none⟩), .pointer (some ⟨b, 0, none⟩)] w (PkS B p m b n D M.s K e (parkX o M).1 L' (parkX o M).2.s w) := by
  have e1 : parkX o M = ({ o with ln := 11 }, csM M (adP (segF o.sl)) o.n (up64 o.n)) := by unfold parkX; rw [if_neg (by omega), if_neg (by omega), if_neg (by omega), if_neg (by omega), if_neg (by omega), if_neg (by omega), if_neg (by omega), if_neg (by omega), if_neg (by omega), if_neg (by omega), if_neg (by omega), if_pos h]; simp [hq]
  rw [e1]
  obtain ⟨hKp, hKb⟩ := k.ne_pr S.pr (by decide) (by decide)
  have hl := S.len
  have h0 := S.st0
  have h1 := S.st1
  rw [h] at k
  rw [adP_eq ok.sl] at hq ⊢
  have hc' := (casA_V _ o.n S.val).trans hq
  obtain ⟨a1, a2⟩ := aft_cs (ad6 (o.sl / 8) (seg_of ok.sl).2.2 1 f1w) o.n (up64 o.n) hc' S.val S.rel.nodup hl
  refine ⟨_, a1, ?_⟩
  rw [← a2]
  refine (park_12_no hBm hBK hKp hKb S.pr k ok.w ok.sl (up_wrap o.n) hc' (by omega) h0 h1).mono ?_
  rintro ee w' ⟨rfl, k', P', f'⟩
  exact ⟨rfl, ⟨pu, k', fun hh => absurd hh (by simp)⟩, P', f'.more (by simp)⟩
theorem pkd9_no (hBm : B ≤ m) (hc : c ≤ 900) (S : Say p m b n D L c M w) (ok : PkNum o) (h : o.ln = 9) (hBK : B ≤ K) (hq : casV M.V (adH o.sl) (headerW 3 (gW o.w)) = false) (k : Bk K 96 (PkC o.sl o.ln o.st o.w o.n pu) w) :
    ∃ L', AftP L' (c + 1) (parkX o M).2 ∧ Calls Tryz.prog 35 #[.pointer (some ⟨K, 0, none⟩), .pointer (some ⟨b, 0, none⟩)] w (PkS B p m b n D M.s K e (parkX o M).1 L' (parkX o M).2.s w) := by
  have e1 : parkX o M = ({ o with ln := 11 }, csM M (adH o.sl) (headerW 3 (gW o.w)) (headerW 0 (gW o.w))) := by unfold parkX; rw [if_neg (by omega), if_neg (by omega), if_neg (by omega), if_neg (by omega), if_neg (by omega), if_neg (by omega), if_neg (by omega), if_neg (by omega), if_pos h]; simp [hq]
  rw [e1]
  obtain ⟨hKp, hKb⟩ := k.ne_pr S.pr (by decide) (by decide)
  have hl := S.len
  have h0 := S.st0
  have h1 := S.st1
  rw [h] at k
  rw [adH_eq ok.sl] at hq ⊢
  have hc' := (casA_V _ (headerW 3 (gW o.w)) S.val).trans hq
  obtain ⟨a1, a2⟩ := aft_cs (ad9 o.sl (i64_slot ok.sl) 0 f0w) (headerW 3 (gW o.w)) (headerW 0 (gW o.w)) hc' S.val S.rel.nodup hl
  refine ⟨_, a1, ?_⟩
  rw [← a2]
  refine (park_9_no hBm hBK hKp hKb S.pr k ok.w ok.sl hc' (by omega) h0 h1).mono ?_
  rintro ee w' ⟨rfl, k', P', f'⟩
  exact ⟨rfl, ⟨pu, k', fun hh => absurd hh (by simp)⟩, P', f'.more (by simp)⟩
theorem pkd9_yes (hBm : B ≤ m) (hc : c ≤ 900) (S : Say p m b n D L c M w) (ok : PkNum o) (h : o.ln = 9) (hBK : B ≤ K) (hq : casV M.V (adH o.sl) (headerW 3 (gW o.w)) = true) (k : Bk K 96 (PkC o.sl o.ln o.st o.w o.n pu) w) :
    ∃ L', AftP L' (c + 1) (parkX o M).2 ∧ Calls Tryz.prog 35 #[.pointer (some ⟨K, 0, none⟩), .pointer (some ⟨b, 0, none⟩)] w (PkS B p m b n D M.s K e (parkX o M).1 L' (parkX o M).2.s w) := by
  have e1 : parkX o M = ({ o with ln := 10 }, csM M (adH o.sl) (headerW 3 (gW o.w)) (headerW 0 (gW o.w))) := by unfold parkX; rw [if_neg (by omega), if_neg (by omega), if_neg (by omega), if_neg (by omega), if_neg (by omega), if_neg (by omega), if_neg (by omega), if_neg (by omega), if_pos h]; simp [hq]
  rw [e1]
  obtain ⟨hKp, hKb⟩ := k.ne_pr S.pr (by decide) (by decide)
  have hl := S.len
  have h0 := S.st0
  have h1 := S.st1
  rw [h] at k
  rw [adH_eq ok.sl] at hq ⊢
  have hc' := (casA_V _ (headerW 3 (gW o.w)) S.val).trans hq
  obtain ⟨a1, a2⟩ := aft_cs (ad9 o.sl (i64_slot ok.sl) 0 f0w) (headerW 3 (gW o.w)) (headerW 0 (gW o.w)) hc' S.val S.rel.nodup hl
  refine ⟨_, a1, ?_⟩
  rw [← a2]
  refine (park_9_yes hBm hBK hKp hKb S.pr k ok.w ok.sl hc' (by omega) h0 h1).mono ?_
  rintro ee w' ⟨rfl, ⟨e', k2, R2, he⟩, P', f'⟩
  have hp := ok.psh (by omega) (by omega)
  exact ⟨rfl, ⟨_, k2, fun _ => ⟨e', rfl, by show PushD e' o.psh w'; rw [hp]; exact ⟨0, R2, u64_0, u64_0, by simp, ok.sl⟩, by have := k.lt; omega, .inr he⟩⟩, P', f'.more (by simp)⟩
theorem pkd10 (hBm : B ≤ m) (hc : c ≤ 900) (S : Say p m b n D L c M w) (ok : PkNum o) (h : o.ln = 10) (hBK : B ≤ K) (hBe : B ≤ e) (hpu : pu = some ⟨e, 0, none⟩) (R : PushD e o.psh w) (k : Bk K 96 (PkC o.sl o.ln o.st o.w o.n pu) w) :
    ∃ L', AftP L' (c + 1) (parkX o M).2 ∧ Calls Tryz.prog 35 #[.pointer (some ⟨K, 0, none⟩), .pointer (some ⟨b, 0, none⟩)] w (PkS B p m b n D M.s K e (parkX o M).1 L' (parkX o M).2.s w) := by
  have e1 : parkX o M = ({ o with ln := if (pushX o.psh M).1.nx = 0 then 0 else 10, psh := (pushX o.psh M).1 }, (pushX o.psh M).2) := by unfold parkX; rw [if_neg (by omega), if_neg (by omega), if_neg (by omega), if_neg (by omega), if_neg (by omega), if_neg (by omega), if_neg (by omega), if_neg (by omega), if_neg (by omega), if_pos h]
  rw [e1]
  subst hpu
  obtain ⟨hKp, hKb⟩ := k.ne_pr S.pr (by decide) (by decide)
  have hKe : K ≠ e := by obtain ⟨nn, R1, _⟩ := R; exact k.ne_ref R1 (by decide)
  rw [h] at k
  obtain ⟨nn, L', A', ⟨n1, n2, n3, n4⟩, hs⟩ := push_doc hBm hBe hc S R
  refine ⟨L', A', ?_⟩
  by_cases hz : (pushX o.psh M).1.nx = 0
  · rw [if_pos hz]
    refine Calls.mono (park_10_end hBK hKp hKb hKe k ok.w hz hs) ?_
    rintro ee w' ⟨rfl, k', R', P', f'⟩
    exact ⟨rfl, ⟨_, k', fun hh => absurd hh (by simp)⟩, P', f'⟩
  · rw [if_neg hz]
    refine Calls.mono (park_10_on hBK hKp hKb hKe k ok.w hz hs) ?_
    rintro ee w' ⟨rfl, k', R', P', f'⟩
    exact ⟨rfl, ⟨_, k', fun _ => ⟨e, rfl, ⟨nn, R', n1, n2, n3, n4⟩, hKe, .inl rfl⟩⟩, P', f'⟩
/-- The document's Park's step. -/
theorem park_doc (hBm : B ≤ m) (hc : c ≤ 900) (S : Say p m b n D L c M w) (ok : PkNum o) (R : PkD B K e o w) :
    ∃ L', AftP L' (c + 1) (parkX o M).2 ∧ Calls Tryz.prog 35 #[.pointer (some ⟨K, 0, none⟩), .pointer (some ⟨b, 0, none⟩)] w (PkS B p m b n D M.s K e (parkX o M).1 L' (parkX o M).2.s w) := by
  obtain ⟨hBK, hBe, pu, k, h10⟩ := R
  have ln := ok.ln
  obtain h | h | h | h | h | h | h | h | h | h | h | h | h : o.ln = 0 ∨ o.ln = 1 ∨ o.ln = 2 ∨ o.ln = 3 ∨ o.ln = 4 ∨ o.ln = 5 ∨ o.ln = 6 ∨ o.ln = 7 ∨ o.ln = 8 ∨ o.ln = 9 ∨ o.ln = 10 ∨ o.ln = 11 ∨ o.ln = 12 := by omega
  · have e1 : parkX o M = (o, M) := by unfold parkX; rw [if_neg (by omega), if_neg (by omega), if_neg (by omega), if_neg (by omega), if_neg (by omega), if_neg (by omega), if_neg (by omega), if_neg (by omega), if_neg (by omega), if_neg (by omega), if_neg (by omega), if_neg (by omega)]
    rw [e1]
    have k0 := k
    rw [h] at k0
    refine ⟨L, S.aft, (park_0 (b := b) k0 ok.w).mono ?_⟩
    rintro ee w' ⟨rfl, rfl⟩
    exact ⟨rfl, ⟨pu, k, fun hh => absurd (h.symm.trans hh) (by decide)⟩, S.pr, .of_below (Below.refl _ _) (Nat.le_trans hBK (Nat.le_of_lt k.lt))⟩
  · exact pkd1 hBm hc S ok h hBK k
  · exact pkd2 hBm hc S ok h hBK k
  · exact pkd3 hBm hc S ok h hBK k
  · by_cases hq : casV M.V (adP (segF o.sl)) o.n = true
    · exact pkd4_yes hBm hc S ok h hBK hq k
    · exact pkd4_no hBm hc S ok h hBK (by simpa using hq) k
  · by_cases hq : M.V (adG (segF o.sl)) = 1
    · exact pkd5_on hBm hc S ok h hBK hq k
    · exact pkd5_stays hBm hc S ok h hBK hq k
  · exact pkd6 hBm hc S ok h hBK k
  · by_cases hq : casV M.V (adP (segF o.sl)) o.n = true
    · exact pkd7_yes hBm hc S ok h hBK hq k
    · exact pkd7_no hBm hc S ok h hBK (by simpa using hq) k
  · by_cases hq : M.V (adG (segF o.sl)) = 1
    · exact pkd8_on hBm hc S ok h hBK hq k
    · exact pkd8_back hBm hc S ok h hBK hq k
  · by_cases hq : casV M.V (adH o.sl) (headerW 3 (gW o.w)) = true
    · exact pkd9_yes hBm hc S ok h hBK hq k
    · exact pkd9_no hBm hc S ok h hBK (by simpa using hq) k
  · obtain ⟨hpu, R⟩ := h10 h
    exact pkd10 hBm hc S ok h hBK hBe hpu R k
  · exact pkd11 hBm hc S ok h hBK k
  · by_cases hq : casV M.V (adP (segF o.sl)) o.n = true
    · exact pkd12_yes hBm hc S ok h hBK hq k
    · exact pkd12_no hBm hc S ok h hBK (by simpa using hq) k
theorem PkR.set {n0 K9 : Nat} {a : Option Addr} (h : PkR K e n0 o a w) (h1 : e ≠ K9) (h2 : K9 < n0) (i : Nat) (v : Value) : PkR K e n0 o a (w.setCell ⟨K9, i, none⟩ v) := fun hh => by
  obtain ⟨e', r1, ⟨nn, R, r2⟩, r3, r4⟩ := h hh
  exact ⟨e', r1, ⟨nn, R.same (Below.heap_setCell w ⟨K9, i, none⟩ v e' (show e' ≠ K9 from r4.elim (fun q => by rw [q]; exact h1) (fun q => by omega))), r2⟩, r3, r4⟩
theorem PkR.below {n0 : Nat} {a : Option Addr} (h : PkR K e n0 o a w) (hb : Below w.heap.size w w') : PkR K e n0 o a w' := fun hh => by
  obtain ⟨e', r1, ⟨nn, R, r2⟩, r3, r4⟩ := h hh
  exact ⟨e', r1, ⟨nn, R.below hb, r2⟩, r3, r4⟩
theorem PkR.doc {n0 : Nat} (h : ∃ pu, Bk K 96 (PkC o.sl o.ln o.st o.w o.n pu) w ∧ PkR K e n0 o pu w) (hK : B ≤ K) (he : B ≤ e) (hn : B ≤ n0) : ∃ e', PkD B K e' o w ∧ (e' = e ∨ n0 ≤ e') := by
  obtain ⟨pu, k, r⟩ := h
  by_cases hh : o.ln = 10
  · obtain ⟨e', r1, r2, r3, r4⟩ := r hh
    exact ⟨e', ⟨hK, by rcases r4 with rfl | r4 <;> omega, pu, k, fun _ => ⟨r1, r2⟩⟩, r4⟩
  · exact ⟨e, ⟨hK, he, pu, k, fun h => absurd h hh⟩, .inl rfl⟩
end
end Go.Proofs.YtlcbinckbkdgdaaGreatDoor
namespace Go.Proofs.YtlcbinckbkdgdaaGreatDoor
open Go.RowKit Go.Maps

/-- The document's Free, as the plain one; its Park in block k1, a Push in block k2. -/
def FrD (B K k1 k2 : Nat) (o : FX) (w : World) : Prop := (B ≤ K ∧ B ≤ k1 ∧ B ≤ k2) ∧ ∃ pa pu, Bk K 92 (FrC o.o.sl o.o.mo o.o.ln o.got o.o.w o.o.n pa pu) w ∧ (o.o.ln = 6 → pa = some ⟨k1, 0, none⟩ ∧ (K ≠ k1 ∧ K ≠ k2) ∧ PkD B k1 k2 o.o.pk w) ∧ (o.o.ln = 7 → pu = some ⟨k2, 0, none⟩ ∧ PushD k2 o.o.psh w)
def FrS (B p m b n : Nat) (D : DataW Unit) (s : Acc8) (K k1 k2 : Nat) (o : FX) (L' : List (Ad × Int)) (r' : Acc8) (w : World) (ee : Ending) (w' : World) : Prop := ee = .returned (.tuple #[]) ∧ (∃ k1' k2', FrD B K k1' k2' o w' ∧ (k1' = k1 ∨ w.heap.size ≤ k1') ∧ (k2' = k2 ∨ w.heap.size ≤ k2')) ∧ Pr p m b n D s L' r' w' ∧ FxL B p b [K, k1, k2] w w'
section
variable {B p m b n c k1 k2 K : Nat} {D : DataW Unit} {L : List (Ad × Int)} {M : MV} {o : FX} {pa pu : Option Addr} {w w' : World}
theorem frd1 (hBm : B ≤ m) (hc : c ≤ 900) (S : Say p m b n D L c M w) (ok : FrNum o) (h : o.o.ln = 1) (hK : B ≤ K ∧ B ≤ k1 ∧ B ≤ k2) (k : Bk K 92 (FrC o.o.sl o.o.mo o.o.ln o.got o.o.w o.o.n pa pu) w) :
    ∃ L', AftP L' (c + 1) (frX o M).2 ∧ Calls Tryz.prog 33 #[.pointer (some ⟨K, 0, none⟩), .pointer (some ⟨b, 0, none⟩)] w (FrS B p m b n D M.s K k1 k2 (frX o M).1 L' (frX o M).2.s w) := by
  have e1 : frX o M = (⟨{ o.o with ln := 2, w := M.V (adH o.o.sl) }, o.got⟩, ldM M (adH o.o.sl)) := by unfold frX; rw [if_pos h]
  rw [e1]
  have hBK := hK.1
  obtain ⟨hKp, hKb⟩ := k.ne_pr S.pr (by decide) (by decide)
  have hl := S.len
  have h0 := S.st0
  have h1 := S.st1
  rw [h] at k
  rw [adH_eq ok.sl]
  obtain ⟨a1, a2⟩ := aft_ld (ad9 o.o.sl (i64_slot ok.sl) 0 f0w) S.val S.rel.nodup hl (S.val _)
  refine ⟨_, a1, ?_⟩
  rw [← a2]
  refine (free_1 hBm hBK hKp hKb S.pr k ok.w ok.sl (S.val _) (by omega) h0 h1).mono ?_
  rintro ee w' ⟨rfl, k', P', f'⟩
  exact ⟨rfl, ⟨k1, k2, ⟨hK, pa, pu, k', fun hh => absurd hh (by simp), fun hh => absurd hh (by simp)⟩, .inl rfl, .inl rfl⟩, P', f'.more (by simp)⟩
theorem frd3 (hBm : B ≤ m) (hc : c ≤ 900) (S : Say p m b n D L c M w) (ok : FrNum o) (h : o.o.ln = 3) (hK : B ≤ K ∧ B ≤ k1 ∧ B ≤ k2) (k : Bk K 92 (FrC o.o.sl o.o.mo o.o.ln o.got o.o.w o.o.n pa pu) w) :
    ∃ L', AftP L' (c + 1) (frX o M).2 ∧ Calls Tryz.prog 33 #[.pointer (some ⟨K, 0, none⟩), .pointer (some ⟨b, 0, none⟩)] w (FrS B p m b n D M.s K k1 k2 (frX o M).1 L' (frX o M).2.s w) := by
  have e1 : frX o M = (⟨{ o.o with ln := 4, n := M.V (adP (segF o.o.sl)) }, o.got⟩, ldM M (adP (segF o.o.sl))) := by unfold frX; rw [if_neg (by omega), if_neg (by omega), if_pos h]
  rw [e1]
  have hBK := hK.1
  obtain ⟨hKp, hKb⟩ := k.ne_pr S.pr (by decide) (by decide)
  have hl := S.len
  have h0 := S.st0
  have h1 := S.st1
  rw [h] at k
  rw [adP_eq ok.sl]
  obtain ⟨a1, a2⟩ := aft_ld (ad6 (o.o.sl / 8) (seg_of ok.sl).2.2 1 f1w) S.val S.rel.nodup hl (S.val _)
  refine ⟨_, a1, ?_⟩
  rw [← a2]
  refine (free_3 hBm hBK hKp hKb S.pr k ok.w ok.sl (S.val _) (by omega) h0 h1).mono ?_
  rintro ee w' ⟨rfl, k', P', f'⟩
  exact ⟨rfl, ⟨k1, k2, ⟨hK, pa, pu, k', fun hh => absurd hh (by simp), fun hh => absurd hh (by simp)⟩, .inl rfl, .inl rfl⟩, P', f'.more (by simp)⟩
theorem frd2_gone (hBm : B ≤ m) (hc : c ≤ 900) (S : Say p m b n D L c M w) (ok : FrNum o) (h : o.o.ln = 2) (hK : B ≤ K ∧ B ≤ k1 ∧ B ≤ k2) (hq : o.o.mo ≤ gW o.o.w) (k : Bk K 92 (FrC o.o.sl o.o.mo o.o.ln o.got o.o.w o.o.n pa pu) w) :
    ∃ L', AftP L' (c + 1) (frX o M).2 ∧ Calls Tryz.prog 33 #[.pointer (some ⟨K, 0, none⟩), .pointer (some ⟨b, 0, none⟩)] w (FrS B p m b n D M.s K k1 k2 (frX o M).1 L' (frX o M).2.s w) := by
  have e1 : frX o M = (⟨{ o.o with ln := 3 }, o.got⟩, stM M (adH o.o.sl) (headerW 4 (gW o.o.w))) := by unfold frX; rw [if_neg (by omega), if_pos h]; simp [hq]
  rw [e1]
  have hBK := hK.1
  obtain ⟨hKp, hKb⟩ := k.ne_pr S.pr (by decide) (by decide)
  have hl := S.len
  have h0 := S.st0
  have h1 := S.st1
  rw [h] at k
  rw [adH_eq ok.sl]
  obtain ⟨a1, a2⟩ := aft_st (ad9 o.o.sl (i64_slot ok.sl) 0 f0w) (headerW 4 (gW o.o.w)) S.val S.rel.nodup hl
  refine ⟨_, a1, ?_⟩
  rw [← a2]
  refine (free_2_gone hBm hBK hKp hKb S.pr k ok.w ok.sl hq (by omega) h0 h1).mono ?_
  rintro ee w' ⟨rfl, k', P', f'⟩
  exact ⟨rfl, ⟨k1, k2, ⟨hK, pa, pu, k', fun hh => absurd hh (by simp), fun hh => absurd hh (by simp)⟩, .inl rfl, .inl rfl⟩, P', f'.more (by simp)⟩
theorem frd2_free (hBm : B ≤ m) (hc : c ≤ 900) (S : Say p m b n D L c M w) (ok : FrNum o) (h : o.o.ln = 2) (hK : B ≤ K ∧ B ≤ k1 ∧ B ≤ k2) (hq : ¬ o.o.mo ≤ gW o.o.w) (k : Bk K 92 (FrC o.o.sl o.o.mo o.o.ln o.got o.o.w o.o.n pa pu) w) :
    ∃ L', AftP L' (c + 1) (frX o M).2 ∧ Calls Tryz.prog 33 #[.pointer (some ⟨K, 0, none⟩), .pointer (some ⟨b, 0, none⟩)] w (FrS B p m b n D M.s K k1 k2 (frX o M).1 L' (frX o M).2.s w) := by
  have e1 : frX o M = (⟨{ o.o with ln := 5 }, o.got⟩, stM M (adH o.o.sl) (headerW 0 (gW o.o.w + 1))) := by unfold frX; rw [if_neg (by omega), if_pos h]; simp [hq]
  rw [e1]
  have hBK := hK.1
  obtain ⟨hKp, hKb⟩ := k.ne_pr S.pr (by decide) (by decide)
  have hl := S.len
  have h0 := S.st0
  have h1 := S.st1
  rw [h] at k
  rw [adH_eq ok.sl]
  have hg1 : fld o.o.w 3 32 < o.o.mo := by have : ¬ o.o.mo ≤ fld o.o.w 3 32 := hq; omega
  have hmo := ok.mo
  have hgu : U64 (gW o.o.w) := gen_u64 _
  obtain ⟨hgu0, _⟩ := hgu
  have hg1' : gW o.o.w < o.o.mo := hg1
  have hg2 : IntKind.u32.wrap (fld o.o.w 3 32 + 1) = gW o.o.w + 1 := by
    show IntKind.u32.wrap (gW o.o.w + 1) = gW o.o.w + 1
    simp [IntKind.wrap, IntKind.bits, IntKind.signed]; omega
  have hg3 : U64 (gW o.o.w + 1) := ⟨by omega, by omega⟩
  obtain ⟨a1, a2⟩ := aft_st (ad9 o.o.sl (i64_slot ok.sl) 0 f0w) (headerW 0 (gW o.o.w + 1)) S.val S.rel.nodup hl
  refine ⟨_, a1, ?_⟩
  rw [← a2]
  refine (free_2_free hBm hBK hKp hKb S.pr k ok.w ok.sl (g1 := gW o.o.w + 1) hg1 hg2 hg3 (by omega) h0 h1).mono ?_
  rintro ee w' ⟨rfl, k', P', f'⟩
  exact ⟨rfl, ⟨k1, k2, ⟨hK, pa, pu, k', fun hh => absurd hh (by simp), fun hh => absurd hh (by simp)⟩, .inl rfl, .inl rfl⟩, P', f'.more (by simp)⟩
theorem frd4_yes (hBm : B ≤ m) (hc : c ≤ 900) (S : Say p m b n D L c M w) (ok : FrNum o) (h : o.o.ln = 4) (hK : B ≤ K ∧ B ≤ k1 ∧ B ≤ k2) (hq : casV M.V (adP (segF o.o.sl)) o.o.n = true) (k : Bk K 92 (FrC o.o.sl o.o.mo o.o.ln o.got o.o.w o.o.n pa pu) w) :
    ∃ L', AftP L' (c + 1) (frX o M).2 ∧ Calls Tryz.prog 33 #[.pointer (some ⟨K, 0, none⟩), .pointer (some ⟨b, 0, none⟩)] w (FrS B p m b n D M.s K k1 k2 (frX o M).1 L' (frX o M).2.s w) := by
  have e1 : frX o M = (⟨{ o.o with ln := 0 }, 4⟩, csM M (adP (segF o.o.sl)) o.o.n (up64 o.o.n)) := by unfold frX; rw [if_neg (by omega), if_neg (by omega), if_neg (by omega), if_pos h]; simp [hq]
  rw [e1]
  have hBK := hK.1
  obtain ⟨hKp, hKb⟩ := k.ne_pr S.pr (by decide) (by decide)
  have hl := S.len
  have h0 := S.st0
  have h1 := S.st1
  rw [h] at k
  rw [adP_eq ok.sl] at hq ⊢
  have hc' := (casA_V _ o.o.n S.val).trans hq
  obtain ⟨a1, a2⟩ := aft_cs (ad6 (o.o.sl / 8) (seg_of ok.sl).2.2 1 f1w) o.o.n (up64 o.o.n) hc' S.val S.rel.nodup hl
  refine ⟨_, a1, ?_⟩
  rw [← a2]
  refine (free_4_yes hBm hBK hKp hKb S.pr k ok.w ok.sl (up_wrap o.o.n) hc' (by omega) h0 h1).mono ?_
  rintro ee w' ⟨rfl, k', P', f'⟩
  exact ⟨rfl, ⟨k1, k2, ⟨hK, pa, pu, k', fun hh => absurd hh (by simp), fun hh => absurd hh (by simp)⟩, .inl rfl, .inl rfl⟩, P', f'.more (by simp)⟩
theorem frd4_no (hBm : B ≤ m) (hc : c ≤ 900) (S : Say p m b n D L c M w) (ok : FrNum o) (h : o.o.ln = 4) (hK : B ≤ K ∧ B ≤ k1 ∧ B ≤ k2) (hq : casV M.V (adP (segF o.o.sl)) o.o.n = false) (k : Bk K 92 (FrC o.o.sl o.o.mo o.o.ln o.got o.o.w o.o.n pa pu) w) :
    ∃ L', AftP L' (c + 1) (frX o M).2 ∧ Calls Tryz.prog 33 #[.pointer (some ⟨K, 0, none⟩), .pointer (some ⟨b, 0, none⟩)] w (FrS B p m b n D M.s K k1 k2 (frX o M).1 L' (frX o M).2.s w) := by
  have e1 : frX o M = (⟨{ o.o with ln := 3 }, o.got⟩, csM M (adP (segF o.o.sl)) o.o.n (up64 o.o.n)) := by unfold frX; rw [if_neg (by omega), if_neg (by omega), if_neg (by omega), if_pos h]; simp [hq]
  rw [e1]
  have hBK := hK.1
  obtain ⟨hKp, hKb⟩ := k.ne_pr S.pr (by decide) (by decide)
  have hl := S.len
  have h0 := S.st0
  have h1 := S.st1
  rw [h] at k
  rw [adP_eq ok.sl] at hq ⊢
  have hc' := (casA_V _ o.o.n S.val).trans hq
  obtain ⟨a1, a2⟩ := aft_cs (ad6 (o.o.sl / 8) (seg_of ok.sl).2.2 1 f1w) o.o.n (up64 o.o.n) hc' S.val S.rel.nodup hl
  refine ⟨_, a1, ?_⟩
  rw [← a2]
  refine (free_4_no hBm hBK hKp hKb S.pr k ok.w ok.sl (up_wrap o.o.n) hc' (by omega) h0 h1).mono ?_
  rintro ee w' ⟨rfl, k', P', f'⟩
  exact ⟨rfl, ⟨k1, k2, ⟨hK, pa, pu, k', fun hh => absurd hh (by simp), fun hh => absurd hh (by simp)⟩, .inl rfl, .inl rfl⟩, P', f'.more (by simp)⟩
theorem frd5_park (hBm : B ≤ m) (hc : c ≤ 900) (S : Say p m b n D L c M w) (ok : FrNum o) (h : o.o.ln = 5) (hK : B ≤ K ∧ B ≤ k1 ∧ B ≤ k2) (hq : M.V (adG (segF o.o.sl)) = 2) (k : Bk K 92 (FrC o.o.sl o.o.mo o.o.ln o.got o.o.w o.o.n pa pu) w) :
    ∃ L', AftP L' (c + 1) (frX o M).2 ∧ Calls Tryz.prog 33 #[.pointer (some ⟨K, 0, none⟩), .pointer (some ⟨b, 0, none⟩)] w (FrS B p m b n D M.s K k1 k2 (frX o M).1 L' (frX o M).2.s w) := by
  have e1 : frX o M = (⟨{ o.o with ln := 6, pk := newPark o.o.sl }, o.got⟩, ldM M (adG (segF o.o.sl))) := by unfold frX; rw [if_neg (by omega), if_neg (by omega), if_neg (by omega), if_neg (by omega), if_pos h]; simp [hq]
  rw [e1]
  have hBK := hK.1
  obtain ⟨hKp, hKb⟩ := k.ne_pr S.pr (by decide) (by decide)
  have hl := S.len
  have h0 := S.st0
  have h1 := S.st1
  rw [h] at k
  rw [adG_eq ok.sl] at hq ⊢
  obtain ⟨a1, a2⟩ := aft_ld (ad6 (o.o.sl / 8) (seg_of ok.sl).2.2 0 f0w) S.val S.rel.nodup hl (S.val _)
  refine ⟨_, a1, ?_⟩
  rw [← a2]
  refine (free_5_park hBm hBK hKp hKb S.pr k ok.w ok.sl (S.val _) hq (by omega) h0 h1).mono ?_
  rintro ee w' ⟨rfl, ⟨en, kn, k', R', N', n1, n2⟩, P', f'⟩
  have hlt := k.lt
  exact ⟨rfl, ⟨kn, en, ⟨⟨hBK, by omega, by omega⟩, _, _, k', fun _ => ⟨rfl, ⟨by omega, by omega⟩, by omega, by omega, none, N', fun hh => absurd (show (1 : Int) = 10 from hh) (by decide)⟩, fun hh => absurd hh (by simp)⟩, .inr (by omega), .inr n1⟩, P', f'.more (by simp)⟩
theorem frd5_push (hBm : B ≤ m) (hc : c ≤ 900) (S : Say p m b n D L c M w) (ok : FrNum o) (h : o.o.ln = 5) (hK : B ≤ K ∧ B ≤ k1 ∧ B ≤ k2) (hq : M.V (adG (segF o.o.sl)) ≠ 2) (k : Bk K 92 (FrC o.o.sl o.o.mo o.o.ln o.got o.o.w o.o.n pa pu) w) :
    ∃ L', AftP L' (c + 1) (frX o M).2 ∧ Calls Tryz.prog 33 #[.pointer (some ⟨K, 0, none⟩), .pointer (some ⟨b, 0, none⟩)] w (FrS B p m b n D M.s K k1 k2 (frX o M).1 L' (frX o M).2.s w) := by
  have e1 : frX o M = (⟨{ o.o with ln := 7, psh := ⟨1, 0, o.o.sl⟩ }, o.got⟩, ldM M (adG (segF o.o.sl))) := by unfold frX; rw [if_neg (by omega), if_neg (by omega), if_neg (by omega), if_neg (by omega), if_pos h]; simp [hq]
  rw [e1]
  have hBK := hK.1
  obtain ⟨hKp, hKb⟩ := k.ne_pr S.pr (by decide) (by decide)
  have hl := S.len
  have h0 := S.st0
  have h1 := S.st1
  rw [h] at k
  rw [adG_eq ok.sl] at hq ⊢
  obtain ⟨a1, a2⟩ := aft_ld (ad6 (o.o.sl / 8) (seg_of ok.sl).2.2 0 f0w) S.val S.rel.nodup hl (S.val _)
  refine ⟨_, a1, ?_⟩
  rw [← a2]
  refine (free_5_push hBm hBK hKp hKb S.pr k ok.w ok.sl (S.val _) hq (by omega) h0 h1).mono ?_
  rintro ee w' ⟨rfl, ⟨en, k', R', n1⟩, P', f'⟩
  have hlt := k.lt
  exact ⟨rfl, ⟨k1, en, ⟨⟨hBK, hK.2.1, by omega⟩, _, _, k', fun hh => absurd hh (by simp), fun _ => ⟨rfl, 0, R', u64_0, u64_0, by simp, ok.sl⟩⟩, .inl rfl, .inr n1⟩, P', f'.more (by simp)⟩
theorem frd6 (hBm : B ≤ m) (hc : c ≤ 900) (S : Say p m b n D L c M w) (ok : FrNum o) (h : o.o.ln = 6) (hK : B ≤ K ∧ B ≤ k1 ∧ B ≤ k2) (hne : K ≠ k1 ∧ K ≠ k2) (hpa : pa = some ⟨k1, 0, none⟩) (R : PkD B k1 k2 o.o.pk w) (k : Bk K 92 (FrC o.o.sl o.o.mo o.o.ln o.got o.o.w o.o.n pa pu) w) :
    ∃ L', AftP L' (c + 1) (frX o M).2 ∧ Calls Tryz.prog 33 #[.pointer (some ⟨K, 0, none⟩), .pointer (some ⟨b, 0, none⟩)] w (FrS B p m b n D M.s K k1 k2 (frX o M).1 L' (frX o M).2.s w) := by
  have e1 : frX o M = (if (parkX o.o.pk M).1.ln = 0 then ⟨{ o.o with ln := 0, pk := (parkX o.o.pk M).1 }, if (parkX o.o.pk M).1.st = true then 3 else o.got⟩ else ⟨{ o.o with pk := (parkX o.o.pk M).1 }, o.got⟩, (parkX o.o.pk M).2) := by unfold frX; rw [if_neg (by omega), if_neg (by omega), if_neg (by omega), if_neg (by omega), if_neg (by omega), if_pos h]
  rw [e1]
  subst hpa
  obtain ⟨hKp, hKb⟩ := k.ne_pr S.pr (by decide) (by decide)
  obtain ⟨hBK, hB1, hB2⟩ := hK
  obtain ⟨hK1, hK2⟩ := hne
  obtain ⟨L', A', hs⟩ := park_doc hBm hc S (ok.pk h).1 R
  have hlt := k.lt
  have hBw : B ≤ w.heap.size := by omega
  rw [h] at k
  refine ⟨L', A', ?_⟩
  by_cases hz : (parkX o.o.pk M).1.ln = 0
  · rw [if_pos hz]
    cases hst : (parkX o.o.pk M).1.st with
    | true =>
      rw [if_pos rfl]
      refine Calls.mono (free_6_parked (R := PkR k1 k2 w.heap.size (parkX o.o.pk M).1) hBK hKp hKb (by simp [hK1, hK2]) (Ne.symm hK1) k ok.w hz hst (fun a X i v r => r.set (Ne.symm hK2) hlt i v) hs) ?_
      rintro ee w' ⟨rfl, k', _, P', f'⟩
      exact ⟨rfl, ⟨k1, k2, ⟨⟨hBK, hB1, hB2⟩, _, _, k', fun hh => absurd hh (by simp), fun hh => absurd hh (by simp)⟩, .inl rfl, .inl rfl⟩, P', f'⟩
    | false =>
      rw [if_neg (by decide)]
      refine Calls.mono (free_6_free (R := PkR k1 k2 w.heap.size (parkX o.o.pk M).1) hBK hKp hKb (by simp [hK1, hK2]) (Ne.symm hK1) k ok.w hz hst (fun a X i v r => r.set (Ne.symm hK2) hlt i v) hs) ?_
      rintro ee w' ⟨rfl, k', _, P', f'⟩
      exact ⟨rfl, ⟨k1, k2, ⟨⟨hBK, hB1, hB2⟩, _, _, k', fun hh => absurd hh (by simp), fun hh => absurd hh (by simp)⟩, .inl rfl, .inl rfl⟩, P', f'⟩
  · rw [if_neg hz]
    refine Calls.mono (free_6_on (R := PkR k1 k2 w.heap.size (parkX o.o.pk M).1) hBK hKp hKb (by simp [hK1, hK2]) (Ne.symm hK1) k ok.w hz (fun a X i v r => r.set (Ne.symm hK2) hlt i v) hs) ?_
    rintro ee w' ⟨rfl, k', r', P', f'⟩
    obtain ⟨e', r1, r2⟩ := PkR.doc r' hB1 hB2 hBw
    exact ⟨rfl, ⟨k1, e', ⟨⟨hBK, hB1, r1.2.1⟩, _, _, by rw [show (o.o.ln : Int) = 6 from h]; exact k', fun _ => ⟨rfl, ⟨hK1, r2.elim (fun q => by rw [q]; exact hK2) (fun q => by omega)⟩, r1⟩, fun hh => absurd (h.symm.trans hh) (by decide)⟩, .inl rfl, r2⟩, P', f'⟩
theorem frd7 (hBm : B ≤ m) (hc : c ≤ 900) (S : Say p m b n D L c M w) (ok : FrNum o) (h : o.o.ln = 7) (hK : B ≤ K ∧ B ≤ k1 ∧ B ≤ k2) (hpu : pu = some ⟨k2, 0, none⟩) (R : PushD k2 o.o.psh w) (k : Bk K 92 (FrC o.o.sl o.o.mo o.o.ln o.got o.o.w o.o.n pa pu) w) :
    ∃ L', AftP L' (c + 1) (frX o M).2 ∧ Calls Tryz.prog 33 #[.pointer (some ⟨K, 0, none⟩), .pointer (some ⟨b, 0, none⟩)] w (FrS B p m b n D M.s K k1 k2 (frX o M).1 L' (frX o M).2.s w) := by
  have e1 : frX o M = (⟨{ o.o with ln := if (pushX o.o.psh M).1.nx = 0 then 0 else 7, psh := (pushX o.o.psh M).1 }, o.got⟩, (pushX o.o.psh M).2) := by unfold frX; rw [if_neg (by omega), if_neg (by omega), if_neg (by omega), if_neg (by omega), if_neg (by omega), if_neg (by omega), if_pos h]
  rw [e1]
  subst hpu
  obtain ⟨hKp, hKb⟩ := k.ne_pr S.pr (by decide) (by decide)
  obtain ⟨hBK, hB1, hB2⟩ := hK
  have hK2 : K ≠ k2 := by obtain ⟨nn, R1, _⟩ := R; exact k.ne_ref R1 (by decide)
  rw [h] at k
  obtain ⟨nn, L', A', ⟨n1, n2, n3, n4⟩, hs⟩ := push_doc hBm hB2 hc S R
  refine ⟨L', A', ?_⟩
  by_cases hz : (pushX o.o.psh M).1.nx = 0
  · rw [if_pos hz]
    refine Calls.mono (free_7_end hBK hKp hKb hK2 k ok.w hz hs) ?_
    rintro ee w' ⟨rfl, k', R', P', f'⟩
    exact ⟨rfl, ⟨k1, k2, ⟨⟨hBK, hB1, hB2⟩, _, _, k', fun hh => absurd hh (by simp), fun hh => absurd hh (by simp)⟩, .inl rfl, .inl rfl⟩, P', f'.more (by simp)⟩
  · rw [if_neg hz]
    refine Calls.mono (free_7_on hBK hKp hKb hK2 k ok.w hz hs) ?_
    rintro ee w' ⟨rfl, k', R', P', f'⟩
    exact ⟨rfl, ⟨k1, k2, ⟨⟨hBK, hB1, hB2⟩, _, _, k', fun hh => absurd (show (7 : Int) = 6 from hh) (by decide), fun _ => ⟨rfl, nn, R', n1, n2, n3, n4⟩⟩, .inl rfl, .inl rfl⟩, P', f'.more (by simp)⟩
/-- The document's Free's step. -/
theorem free_doc (hBm : B ≤ m) (hc : c ≤ 900) (S : Say p m b n D L c M w) (ok : FrNum o) (R : FrD B K k1 k2 o w) :
    ∃ L', AftP L' (c + 1) (frX o M).2 ∧ Calls Tryz.prog 33 #[.pointer (some ⟨K, 0, none⟩), .pointer (some ⟨b, 0, none⟩)] w (FrS B p m b n D M.s K k1 k2 (frX o M).1 L' (frX o M).2.s w) := by
  obtain ⟨hK, pa, pu, k, h6, h7⟩ := R
  have ln := ok.ln
  obtain h | h | h | h | h | h | h | h : o.o.ln = 0 ∨ o.o.ln = 1 ∨ o.o.ln = 2 ∨ o.o.ln = 3 ∨ o.o.ln = 4 ∨ o.o.ln = 5 ∨ o.o.ln = 6 ∨ o.o.ln = 7 := by omega
  · have e1 : frX o M = (o, M) := by unfold frX; rw [if_neg (by omega), if_neg (by omega), if_neg (by omega), if_neg (by omega), if_neg (by omega), if_neg (by omega), if_neg (by omega)]
    rw [e1]
    have k0 := k
    rw [h] at k0
    refine ⟨L, S.aft, (free_0 (b := b) k0 ok.w).mono ?_⟩
    rintro ee w' ⟨rfl, rfl⟩
    exact ⟨rfl, ⟨k1, k2, ⟨hK, pa, pu, k, h6, h7⟩, .inl rfl, .inl rfl⟩, S.pr, .of_below (Below.refl _ _) (Nat.le_trans hK.1 (Nat.le_of_lt k.lt))⟩
  · exact frd1 hBm hc S ok h hK k
  · by_cases hq : o.o.mo ≤ gW o.o.w
    · exact frd2_gone hBm hc S ok h hK hq k
    · exact frd2_free hBm hc S ok h hK hq k
  · exact frd3 hBm hc S ok h hK k
  · by_cases hq : casV M.V (adP (segF o.o.sl)) o.o.n = true
    · exact frd4_yes hBm hc S ok h hK hq k
    · exact frd4_no hBm hc S ok h hK (by simpa using hq) k
  · by_cases hq : M.V (adG (segF o.o.sl)) = 2
    · exact frd5_park hBm hc S ok h hK hq k
    · exact frd5_push hBm hc S ok h hK hq k
  · obtain ⟨hpa, hne, R⟩ := h6 h
    exact frd6 hBm hc S ok h hK hne hpa R k
  · obtain ⟨hpu, R⟩ := h7 h
    exact frd7 hBm hc S ok h hK hpu R k
end
end Go.Proofs.YtlcbinckbkdgdaaGreatDoor
namespace Go.Proofs.YtlcbinckbkdgdaaGreatDoor
open Go.RowKit Go.Maps

theorem popOk_new : PopOk 1 0 0 0 false 0 := ⟨u64_0, u64_0, .inl ⟨rfl, rfl⟩⟩
/-- The document's Alloc, as the plain one; its Pop or its Park in block k1, that one's Push in block k2. -/
def AlD (B K k1 k2 : Nat) (o : AX) (w : World) : Prop := (B ≤ K ∧ B ≤ k1 ∧ B ≤ k2) ∧ ∃ sl ge pp pa, Bk K 84 (AlC o.o.ln sl ge false o.o.got pp pa o.e o.o.w) w ∧ ((2 ≤ o.o.ln ∨ o.o.got = true) → sl = o.o.sl) ∧ (o.o.got = true → ge = gW o.o.w) ∧ (o.o.ln = 1 → pp = some ⟨k1, 0, none⟩ ∧ PopD k1 o.o.pop w) ∧ (o.o.ln = 3 → pa = some ⟨k1, 0, none⟩ ∧ (K ≠ k1 ∧ K ≠ k2) ∧ PkD B k1 k2 o.o.pk w)
def AlS (B p m b n : Nat) (D : DataW Unit) (s : Acc8) (K k1 k2 : Nat) (o : AX) (L' : List (Ad × Int)) (r' : Acc8) (w : World) (ee : Ending) (w' : World) : Prop := ee = .returned (.tuple #[]) ∧ (∃ k1' k2', AlD B K k1' k2' o w' ∧ (k1' = k1 ∨ w.heap.size ≤ k1') ∧ (k2' = k2 ∨ w.heap.size ≤ k2')) ∧ Pr p m b n D s L' r' w' ∧ FxL B p b [K, k1, k2] w w'
section
variable {B p m b n c k1 k2 K : Nat} {D : DataW Unit} {L : List (Ad × Int)} {M : MV} {o : AX} {pp pa : Option Addr} {ge sl : Int} {w w' : World}
theorem ald4 (hBm : B ≤ m) (hc : c ≤ 900) (S : Say p m b n D L c M w) (ok : AlNum o) (h : o.o.ln = 4) (hK : B ≤ K ∧ B ≤ k1 ∧ B ≤ k2) (k : Bk K 84 (AlC o.o.ln o.o.sl ge false o.o.got pp pa o.e o.o.w) w) :
    ∃ L', AftP L' (c + 1) (alX o M).2 ∧ Calls Tryz.prog 29 #[.pointer (some ⟨K, 0, none⟩), .pointer (some ⟨b, 0, none⟩)] w (AlS B p m b n D M.s K k1 k2 (alX o M).1 L' (alX o M).2.s w) := by
  have e1 : alX o M = (⟨{ o.o with ln := 5 }, M.V adEr⟩, ldM M adEr) := by unfold alX; rw [if_neg (by omega), if_neg (by omega), if_neg (by omega), if_pos h]
  rw [e1]
  have hBK := hK.1
  have hsl := ok.sl (by omega)
  have hgo := ok.got (by omega)
  obtain ⟨hKp, hKb⟩ := k.ne_pr S.pr (by decide) (by decide)
  have hl := S.len
  have h0 := S.st0
  have h1 := S.st1
  rw [h] at k
  rw [adEr_eq]
  obtain ⟨a1, a2⟩ := aft_ld adE S.val S.rel.nodup hl (S.val _)
  refine ⟨_, a1, ?_⟩
  rw [← a2]
  refine (alloc_4 hBm hBK hKp hKb S.pr k hsl (S.val _) (by omega) h0 h1).mono ?_
  rintro ee w' ⟨rfl, k', P', f'⟩
  exact ⟨rfl, ⟨k1, k2, ⟨hK, _, _, pp, pa, k', fun _ => rfl, fun hh => absurd (hgo.symm.trans hh) (by decide), fun hh => absurd hh (by simp), fun hh => absurd hh (by simp)⟩, .inl rfl, .inl rfl⟩, P', f'.more (by simp)⟩
theorem ald5 (hBm : B ≤ m) (hc : c ≤ 900) (S : Say p m b n D L c M w) (ok : AlNum o) (h : o.o.ln = 5) (hK : B ≤ K ∧ B ≤ k1 ∧ B ≤ k2) (k : Bk K 84 (AlC o.o.ln o.o.sl ge false o.o.got pp pa o.e o.o.w) w) :
    ∃ L', AftP L' (c + 1) (alX o M).2 ∧ Calls Tryz.prog 29 #[.pointer (some ⟨K, 0, none⟩), .pointer (some ⟨b, 0, none⟩)] w (AlS B p m b n D M.s K k1 k2 (alX o M).1 L' (alX o M).2.s w) := by
  have e1 : alX o M = (⟨{ o.o with ln := 6 }, o.e⟩, stM M (adB o.o.sl) o.e) := by unfold alX; rw [if_neg (by omega), if_neg (by omega), if_neg (by omega), if_neg (by omega), if_pos h]
  rw [e1]
  have hBK := hK.1
  have hsl := ok.sl (by omega)
  have hgo := ok.got (by omega)
  obtain ⟨hKp, hKb⟩ := k.ne_pr S.pr (by decide) (by decide)
  have hl := S.len
  have h0 := S.st0
  have h1 := S.st1
  rw [h] at k
  rw [adB_eq hsl]
  obtain ⟨a1, a2⟩ := aft_st (ad9 o.o.sl (i64_slot hsl) 1 f1w) o.e S.val S.rel.nodup hl
  refine ⟨_, a1, ?_⟩
  rw [← a2]
  refine (alloc_5 hBm hBK hKp hKb S.pr k hsl (by omega) h0 h1).mono ?_
  rintro ee w' ⟨rfl, k', P', f'⟩
  exact ⟨rfl, ⟨k1, k2, ⟨hK, _, _, pp, pa, k', fun _ => rfl, fun hh => absurd (hgo.symm.trans hh) (by decide), fun hh => absurd hh (by simp), fun hh => absurd hh (by simp)⟩, .inl rfl, .inl rfl⟩, P', f'.more (by simp)⟩
theorem ald6 (hBm : B ≤ m) (hc : c ≤ 900) (S : Say p m b n D L c M w) (ok : AlNum o) (h : o.o.ln = 6) (hK : B ≤ K ∧ B ≤ k1 ∧ B ≤ k2) (k : Bk K 84 (AlC o.o.ln o.o.sl ge false o.o.got pp pa o.e o.o.w) w) :
    ∃ L', AftP L' (c + 1) (alX o M).2 ∧ Calls Tryz.prog 29 #[.pointer (some ⟨K, 0, none⟩), .pointer (some ⟨b, 0, none⟩)] w (AlS B p m b n D M.s K k1 k2 (alX o M).1 L' (alX o M).2.s w) := by
  have e1 : alX o M = (⟨{ o.o with ln := 7, w := M.V (adH o.o.sl) }, o.e⟩, ldM M (adH o.o.sl)) := by unfold alX; rw [if_neg (by omega), if_neg (by omega), if_neg (by omega), if_neg (by omega), if_neg (by omega), if_pos h]
  rw [e1]
  have hBK := hK.1
  have hsl := ok.sl (by omega)
  have hgo := ok.got (by omega)
  obtain ⟨hKp, hKb⟩ := k.ne_pr S.pr (by decide) (by decide)
  have hl := S.len
  have h0 := S.st0
  have h1 := S.st1
  rw [h] at k
  rw [adH_eq hsl]
  obtain ⟨a1, a2⟩ := aft_ld (ad9 o.o.sl (i64_slot hsl) 0 f0w) S.val S.rel.nodup hl (S.val _)
  refine ⟨_, a1, ?_⟩
  rw [← a2]
  refine (alloc_6 hBm hBK hKp hKb S.pr k hsl (S.val _) (by omega) h0 h1).mono ?_
  rintro ee w' ⟨rfl, k', P', f'⟩
  exact ⟨rfl, ⟨k1, k2, ⟨hK, _, _, pp, pa, k', fun _ => rfl, fun hh => absurd (hgo.symm.trans hh) (by decide), fun hh => absurd hh (by simp), fun hh => absurd hh (by simp)⟩, .inl rfl, .inl rfl⟩, P', f'.more (by simp)⟩
theorem ald7 (hBm : B ≤ m) (hc : c ≤ 900) (S : Say p m b n D L c M w) (ok : AlNum o) (h : o.o.ln = 7) (hK : B ≤ K ∧ B ≤ k1 ∧ B ≤ k2) (k : Bk K 84 (AlC o.o.ln o.o.sl ge false o.o.got pp pa o.e o.o.w) w) :
    ∃ L', AftP L' (c + 1) (alX o M).2 ∧ Calls Tryz.prog 29 #[.pointer (some ⟨K, 0, none⟩), .pointer (some ⟨b, 0, none⟩)] w (AlS B p m b n D M.s K k1 k2 (alX o M).1 L' (alX o M).2.s w) := by
  have e1 : alX o M = (⟨{ o.o with ln := 0, got := true }, o.e⟩, stM M (adH o.o.sl) (headerW 1 (gW o.o.w))) := by unfold alX; rw [if_neg (by omega), if_neg (by omega), if_neg (by omega), if_neg (by omega), if_neg (by omega), if_neg (by omega), if_pos h]
  rw [e1]
  have hBK := hK.1
  have hsl := ok.sl (by omega)
  have hgo := ok.got (by omega)
  obtain ⟨hKp, hKb⟩ := k.ne_pr S.pr (by decide) (by decide)
  have hl := S.len
  have h0 := S.st0
  have h1 := S.st1
  rw [h] at k
  rw [adH_eq hsl]
  obtain ⟨a1, a2⟩ := aft_st (ad9 o.o.sl (i64_slot hsl) 0 f0w) (headerW 1 (gW o.o.w)) S.val S.rel.nodup hl
  refine ⟨_, a1, ?_⟩
  rw [← a2]
  refine (alloc_7 hBm hBK hKp hKb S.pr k hsl ok.w (by omega) h0 h1).mono ?_
  rintro ee w' ⟨rfl, k', P', f'⟩
  exact ⟨rfl, ⟨k1, k2, ⟨hK, _, _, pp, pa, k', fun _ => rfl, fun _ => rfl, fun hh => absurd hh (by simp), fun hh => absurd hh (by simp)⟩, .inl rfl, .inl rfl⟩, P', f'.more (by simp)⟩
theorem ald2_on (hBm : B ≤ m) (hc : c ≤ 900) (S : Say p m b n D L c M w) (ok : AlNum o) (h : o.o.ln = 2) (hK : B ≤ K ∧ B ≤ k1 ∧ B ≤ k2) (hq : M.V (adG (segF o.o.sl)) ≠ 2) (k : Bk K 84 (AlC o.o.ln o.o.sl ge false o.o.got pp pa o.e o.o.w) w) :
    ∃ L', AftP L' (c + 1) (alX o M).2 ∧ Calls Tryz.prog 29 #[.pointer (some ⟨K, 0, none⟩), .pointer (some ⟨b, 0, none⟩)] w (AlS B p m b n D M.s K k1 k2 (alX o M).1 L' (alX o M).2.s w) := by
  have e1 : alX o M = (⟨{ o.o with ln := 4 }, o.e⟩, ldM M (adG (segF o.o.sl))) := by unfold alX; rw [if_neg (by omega), if_pos h]; simp [hq]
  rw [e1]
  have hBK := hK.1
  have hsl := ok.sl (by omega)
  have hgo := ok.got (by omega)
  obtain ⟨hKp, hKb⟩ := k.ne_pr S.pr (by decide) (by decide)
  have hl := S.len
  have h0 := S.st0
  have h1 := S.st1
  rw [h] at k
  rw [adG_eq hsl] at hq ⊢
  obtain ⟨a1, a2⟩ := aft_ld (ad6 (o.o.sl / 8) (seg_of hsl).2.2 0 f0w) S.val S.rel.nodup hl (S.val _)
  refine ⟨_, a1, ?_⟩
  rw [← a2]
  refine (alloc_2_on hBm hBK hKp hKb S.pr k hsl (S.val _) hq (by omega) h0 h1).mono ?_
  rintro ee w' ⟨rfl, k', P', f'⟩
  exact ⟨rfl, ⟨k1, k2, ⟨hK, _, _, pp, pa, k', fun _ => rfl, fun hh => absurd (hgo.symm.trans hh) (by decide), fun hh => absurd hh (by simp), fun hh => absurd hh (by simp)⟩, .inl rfl, .inl rfl⟩, P', f'.more (by simp)⟩
theorem ald2_park (hBm : B ≤ m) (hc : c ≤ 900) (S : Say p m b n D L c M w) (ok : AlNum o) (h : o.o.ln = 2) (hK : B ≤ K ∧ B ≤ k1 ∧ B ≤ k2) (hq : M.V (adG (segF o.o.sl)) = 2) (k : Bk K 84 (AlC o.o.ln o.o.sl ge false o.o.got pp pa o.e o.o.w) w) :
    ∃ L', AftP L' (c + 1) (alX o M).2 ∧ Calls Tryz.prog 29 #[.pointer (some ⟨K, 0, none⟩), .pointer (some ⟨b, 0, none⟩)] w (AlS B p m b n D M.s K k1 k2 (alX o M).1 L' (alX o M).2.s w) := by
  have e1 : alX o M = (⟨{ o.o with ln := 3, pk := newPark o.o.sl }, o.e⟩, ldM M (adG (segF o.o.sl))) := by unfold alX; rw [if_neg (by omega), if_pos h]; simp [hq]
  rw [e1]
  have hBK := hK.1
  have hsl := ok.sl (by omega)
  have hgo := ok.got (by omega)
  obtain ⟨hKp, hKb⟩ := k.ne_pr S.pr (by decide) (by decide)
  have hl := S.len
  have h0 := S.st0
  have h1 := S.st1
  rw [h] at k
  rw [adG_eq hsl] at hq ⊢
  obtain ⟨a1, a2⟩ := aft_ld (ad6 (o.o.sl / 8) (seg_of hsl).2.2 0 f0w) S.val S.rel.nodup hl (S.val _)
  refine ⟨_, a1, ?_⟩
  rw [← a2]
  refine (alloc_2_park hBm hBK hKp hKb S.pr k hsl (S.val _) hq (by omega) h0 h1).mono ?_
  rintro ee w' ⟨rfl, ⟨kn, k', N', n1⟩, P', f'⟩
  have hlt := k.lt
  exact ⟨rfl, ⟨kn, kn, ⟨⟨hBK, by omega, by omega⟩, _, _, pp, _, k', fun _ => rfl, fun hh => absurd (hgo.symm.trans hh) (by decide), fun hh => absurd hh (by simp), fun _ => ⟨rfl, ⟨by omega, by omega⟩, by omega, by omega, none, N', fun hh => absurd (show (1 : Int) = 10 from hh) (by decide)⟩⟩, .inr n1, .inr n1⟩, P', f'.more (by simp)⟩
theorem ald3 (hBm : B ≤ m) (hc : c ≤ 900) (S : Say p m b n D L c M w) (ok : AlNum o) (h : o.o.ln = 3) (hK : B ≤ K ∧ B ≤ k1 ∧ B ≤ k2) (hne : K ≠ k1 ∧ K ≠ k2) (hpa : pa = some ⟨k1, 0, none⟩) (R : PkD B k1 k2 o.o.pk w) (k : Bk K 84 (AlC o.o.ln o.o.sl ge false o.o.got pp pa o.e o.o.w) w) :
    ∃ L', AftP L' (c + 1) (alX o M).2 ∧ Calls Tryz.prog 29 #[.pointer (some ⟨K, 0, none⟩), .pointer (some ⟨b, 0, none⟩)] w (AlS B p m b n D M.s K k1 k2 (alX o M).1 L' (alX o M).2.s w) := by
  have e1 : alX o M = (⟨if (parkX o.o.pk M).1.ln = 0 then { o.o with ln := 1, pop := ⟨1, 0, 0⟩, pk := (parkX o.o.pk M).1 } else { o.o with pk := (parkX o.o.pk M).1 }, o.e⟩, (parkX o.o.pk M).2) := by unfold alX; rw [if_neg (by omega), if_neg (by omega), if_pos h]
  rw [e1]
  subst hpa
  have hgo := ok.got (by omega)
  obtain ⟨hKp, hKb⟩ := k.ne_pr S.pr (by decide) (by decide)
  obtain ⟨hBK, hB1, hB2⟩ := hK
  obtain ⟨hK1, hK2⟩ := hne
  obtain ⟨L', A', hs⟩ := park_doc hBm hc S (ok.pk h).1 R
  have hlt := k.lt
  have hBw : B ≤ w.heap.size := by omega
  rw [h] at k
  refine ⟨L', A', ?_⟩
  by_cases hz : (parkX o.o.pk M).1.ln = 0
  · rw [if_pos hz]
    refine Calls.mono (alloc_3_back (R := PkR k1 k2 w.heap.size (parkX o.o.pk M).1) hBK hKp hKb (by simp [hK1, hK2]) (Ne.symm hK1) k hz (fun a X i v r => r.set (Ne.symm hK2) hlt i v) (fun a X Y r hb => r.below hb) hs) ?_
    rintro ee w' ⟨rfl, ⟨e, k', R', n1⟩, _, P', f'⟩
    exact ⟨rfl, ⟨e, k2, ⟨⟨hBK, by omega, hB2⟩, _, _, _, _, k', fun hh => hh.elim (fun q => absurd (show (2 : Int) ≤ 1 from q) (by decide)) (fun q => absurd (hgo.symm.trans q) (by decide)), fun hh => absurd (hgo.symm.trans hh) (by decide), fun _ => ⟨rfl, 0, false, 0, R', popOk_new⟩, fun hh => absurd hh (by simp)⟩, .inr n1, .inl rfl⟩, P', f'⟩
  · rw [if_neg hz]
    refine Calls.mono (alloc_3_on (R := PkR k1 k2 w.heap.size (parkX o.o.pk M).1) hBK hKp hKb (by simp [hK1, hK2]) (Ne.symm hK1) k hz (fun a X i v r => r.set (Ne.symm hK2) hlt i v) (fun a X Y r hb => r.below hb) hs) ?_
    rintro ee w' ⟨rfl, k', r', P', f'⟩
    obtain ⟨e', r1, r2⟩ := PkR.doc r' hB1 hB2 hBw
    exact ⟨rfl, ⟨k1, e', ⟨⟨hBK, hB1, r1.2.1⟩, _, _, _, _, by rw [show (o.o.ln : Int) = 3 from h]; exact k', fun _ => rfl, fun hh => absurd (hgo.symm.trans hh) (by decide), fun hh => absurd (h.symm.trans hh) (by decide), fun _ => ⟨rfl, ⟨hK1, r2.elim (fun q => by rw [q]; exact hK2) (fun q => by omega)⟩, r1⟩⟩, .inl rfl, r2⟩, P', f'⟩
theorem ald1 (hBm : B ≤ m) (hc : c ≤ 900) (S : Say p m b n D L c M w) (ok : AlNum o) (h : o.o.ln = 1) (hK : B ≤ K ∧ B ≤ k1 ∧ B ≤ k2) (hpp : pp = some ⟨k1, 0, none⟩) (R : PopD k1 o.o.pop w) (k : Bk K 84 (AlC o.o.ln sl ge false o.o.got pp pa o.e o.o.w) w) :
    ∃ L', AftP L' (c + 1) (alX o M).2 ∧ Calls Tryz.prog 29 #[.pointer (some ⟨K, 0, none⟩), .pointer (some ⟨b, 0, none⟩)] w (AlS B p m b n D M.s K k1 k2 (alX o M).1 L' (alX o M).2.s w) := by
  have e1 : alX o M = (if (popX o.o.pop M).1.nx = 0 then (if wSlot (popX o.o.pop M).1.h < 0 then ⟨{ o.o with ln := 0, pop := (popX o.o.pop M).1 }, o.e⟩ else ⟨{ o.o with ln := 2, pop := (popX o.o.pop M).1, sl := wSlot (popX o.o.pop M).1.h }, o.e⟩) else ⟨{ o.o with pop := (popX o.o.pop M).1 }, o.e⟩, (popX o.o.pop M).2) := by unfold alX; rw [if_pos h]
  rw [e1]
  subst hpp
  have hgo := ok.got (by omega)
  obtain ⟨hKp, hKb⟩ := k.ne_pr S.pr (by decide) (by decide)
  obtain ⟨hBK, hB1, hB2⟩ := hK
  have hK1 : K ≠ k1 := by obtain ⟨s1, g1, n1, R1, _⟩ := R; exact k.ne_ref R1 (by decide)
  rw [h] at k
  obtain ⟨sl', got, nn, L', A', hok, hs⟩ := pop_doc hBm hB1 hc S R
  refine ⟨L', A', ?_⟩
  by_cases hz : (popX o.o.pop M).1.nx = 0
  · rw [if_pos hz]
    obtain ⟨u1, u2, q | q | q | q | q⟩ := id hok
    · omega
    · omega
    · omega
    · rw [if_pos q.2.2]
      refine Calls.mono (alloc_1_none hBK hKp hKb hK1 k hz q.2.1 hs) ?_
      rintro ee w' ⟨rfl, k', R', P', f'⟩
      exact ⟨rfl, ⟨k1, k2, ⟨⟨hBK, hB1, hB2⟩, _, _, _, pa, k', fun hh => hh.elim (fun q => absurd (show (2 : Int) ≤ 0 from q) (by decide)) (fun q => absurd (hgo.symm.trans q) (by decide)), fun hh => absurd (hgo.symm.trans hh) (by decide), fun hh => absurd hh (by simp), fun hh => absurd hh (by simp)⟩, .inl rfl, .inl rfl⟩, P', f'.more (by simp)⟩
    · rw [if_neg (by omega)]
      refine Calls.mono (alloc_1_got hBK hKp hKb hK1 k hz q.2.1 hs) ?_
      rintro ee w' ⟨rfl, k', R', P', f'⟩
      exact ⟨rfl, ⟨k1, k2, ⟨⟨hBK, hB1, hB2⟩, _, _, _, pa, k', fun _ => q.2.2.2, fun hh => absurd (hgo.symm.trans hh) (by decide), fun hh => absurd hh (by simp), fun hh => absurd hh (by simp)⟩, .inl rfl, .inl rfl⟩, P', f'.more (by simp)⟩
  · rw [if_neg hz]
    refine Calls.mono (alloc_1_on hBK hKp hKb hK1 k hz hs) ?_
    rintro ee w' ⟨rfl, k', R', P', f'⟩
    exact ⟨rfl, ⟨k1, k2, ⟨⟨hBK, hB1, hB2⟩, _, _, _, pa, by rw [show (o.o.ln : Int) = 1 from h]; exact k', fun hh => hh.elim (fun q => absurd (show (2 : Int) ≤ o.o.ln from q) (by omega)) (fun q => absurd (hgo.symm.trans q) (by decide)), fun hh => absurd (hgo.symm.trans hh) (by decide), fun _ => ⟨rfl, sl', got, nn, R', hok⟩, fun hh => absurd (h.symm.trans hh) (by decide)⟩, .inl rfl, .inl rfl⟩, P', f'.more (by simp)⟩
/-- The document's Alloc's step. -/
theorem alloc_doc (hBm : B ≤ m) (hc : c ≤ 900) (S : Say p m b n D L c M w) (ok : AlNum o) (R : AlD B K k1 k2 o w) :
    ∃ L', AftP L' (c + 1) (alX o M).2 ∧ Calls Tryz.prog 29 #[.pointer (some ⟨K, 0, none⟩), .pointer (some ⟨b, 0, none⟩)] w (AlS B p m b n D M.s K k1 k2 (alX o M).1 L' (alX o M).2.s w) := by
  obtain ⟨hK, sl, ge, pp, pa, k, hsl, hge, h1, h3⟩ := R
  have ln := ok.ln
  obtain h | h | h : o.o.ln = 0 ∨ o.o.ln = 1 ∨ 2 ≤ o.o.ln := by omega
  · have e1 : alX o M = (o, M) := by unfold alX; rw [if_neg (by omega), if_neg (by omega), if_neg (by omega), if_neg (by omega), if_neg (by omega), if_neg (by omega), if_neg (by omega)]
    rw [e1]
    have k0 := k
    rw [h] at k0
    refine ⟨L, S.aft, (alloc_0 (b := b) k0).mono ?_⟩
    rintro ee w' ⟨rfl, rfl⟩
    exact ⟨rfl, ⟨k1, k2, ⟨hK, sl, ge, pp, pa, k, hsl, hge, h1, h3⟩, .inl rfl, .inl rfl⟩, S.pr, .of_below (Below.refl _ _) (Nat.le_trans hK.1 (Nat.le_of_lt k.lt))⟩
  · obtain ⟨hpp, R⟩ := h1 h
    exact ald1 hBm hc S ok h hK hpp R k
  · rw [hsl (.inl h)] at k
    obtain h | h | h | h | h | h : o.o.ln = 2 ∨ o.o.ln = 3 ∨ o.o.ln = 4 ∨ o.o.ln = 5 ∨ o.o.ln = 6 ∨ o.o.ln = 7 := by omega
    · by_cases hq : M.V (adG (segF o.o.sl)) = 2
      · exact ald2_park hBm hc S ok h hK hq k
      · exact ald2_on hBm hc S ok h hK hq k
    · obtain ⟨hpa, hne, R⟩ := h3 h
      exact ald3 hBm hc S ok h hK hne hpa R k
    · exact ald4 hBm hc S ok h hK k
    · exact ald5 hBm hc S ok h hK k
    · exact ald6 hBm hc S ok h hK k
    · exact ald7 hBm hc S ok h hK k
end
end Go.Proofs.YtlcbinckbkdgdaaGreatDoor
