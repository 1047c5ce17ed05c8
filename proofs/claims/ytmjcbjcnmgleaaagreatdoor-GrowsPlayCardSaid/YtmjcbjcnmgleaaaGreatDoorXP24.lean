/-
  The document's Park of layer 8 in plain words; Threads over the list of free slots, in plain words; conditions as each theorem says.
-/
import Derived.Test.YtmjcbjcnmgleaaaGreatDoorXP23
import Derived.Test.YtmjcbjcnmgleaaaGreatDoorXP19
namespace Go.Proofs.YtmjcbjcnmgleaaaGreatDoor
open Go.RowKit Go.Maps
theorem adH_eq {s : Int} (h : 0 ≤ s ∧ s < 256) : adH s = ad9 s (i64_slot h) 0 f0w := dif_pos (show (Lit.int .i64 s).wf = true from i64_slot h)
theorem adP_eq {s : Int} (h : 0 ≤ s ∧ s < 256) : adP (segF s) = ad6 (s / 8) (seg_of h).2.2 1 f1w := dif_pos (show (Lit.int .i64 (s / 8)).wf = true from (seg_of h).2.2)
theorem adG_eq {s : Int} (h : 0 ≤ s ∧ s < 256) : adG (segF s) = ad6 (s / 8) (seg_of h).2.2 0 f0w := dif_pos (show (Lit.int .i64 (s / 8)).wf = true from (seg_of h).2.2)
theorem down_wrap' (n : Int) : IntKind.u64.wrap (n - 1) = down64 n := by rw [IntKind.wrap_u64]; rfl
theorem Bk.ne_pr {K p m b n : Nat} {t : TypeId} {cs : List Value} {D : DataW Unit} {s r : Acc8} {L : List (Ad × Int)} {w : World} (k : Bk K t cs w) (hP : Pr p m b n D s L r w) (h1 : t ≠ 121) (h2 : t ≠ 103) : K ≠ p ∧ K ≠ b := by
  obtain ⟨v, hr⟩ := hP.ref
  constructor
  · rintro rfl
    have := hP.prog.blk.symm.trans k
    simp only [Option.some.injEq, Obj.cells.injEq] at this
    exact h1 this.2.1.symm
  · rintro rfl
    have := hr.blk.symm.trans k
    simp only [Option.some.injEq, Obj.cells.injEq] at this
    exact h2 this.2.1.symm
theorem Bk.ne_ref {K e : Nat} {t : TypeId} {cs : List Value} {psh got : Bool} {sl nx h nn : Int} {w : World} (k : Bk K t cs w) (R : RefAt e psh sl nx got h nn w) (h1 : t ≠ 177) : K ≠ e := by
  rintro rfl
  have := Eq.trans (Eq.symm k) R
  simp only [Option.some.injEq, Obj.cells.injEq] at this
  exact h1 this.2.1
def PkD (B K e : Nat) (o : PO) (w : World) : Prop := B ≤ K ∧ B ≤ e ∧ ∃ pu, Bk K 180 (PkC o.sl o.ln o.st o.w o.n pu) w ∧ (o.ln = 10 → pu = some ⟨e, 0, none⟩ ∧ PushD e o.psh w)
def PkR (K e n0 : Nat) (o : PO) (pu : Option Addr) (w : World) : Prop := o.ln = 10 → ∃ e', pu = some ⟨e', 0, none⟩ ∧ PushD e' o.psh w ∧ K ≠ e' ∧ (e' = e ∨ n0 ≤ e')
def PkS (B p m b n : Nat) (D : DataW Unit) (s : Acc8) (K e : Nat) (o : PO) (L' : List (Ad × Int)) (r' : Acc8) (w : World) (ee : Ending) (w' : World) : Prop := ee = .returned (.tuple #[]) ∧ (∃ pu, Bk K 180 (PkC o.sl o.ln o.st o.w o.n pu) w' ∧ PkR K e w.heap.size o pu w') ∧ Pr p m b n D s L' r' w' ∧ FxL B p b [K, e] w w'
section
variable {B p m b n c e K : Nat} {D : DataW Unit} {L : List (Ad × Int)} {M : MV} {o : PO} {pu : Option Addr} {w w' : World}
theorem pkd1 (hBm : B ≤ m) (hc : c ≤ 4900) (S : Say p m b n D L c M w) (ok : PkNum o) (h : o.ln = 1) (hBK : B ≤ K) (k : Bk K 180 (PkC o.sl o.ln o.st o.w o.n pu) w) :
    ∃ L', AftP L' (c + 1) (parkX o M).2 ∧ Calls Tryz.prog 105 #[.pointer (some ⟨K, 0, none⟩), .pointer (some ⟨b, 0, none⟩)] w (PkS B p m b n D M.s K e (parkX o M).1 L' (parkX o M).2.s w) := by
  have e1 : parkX o M = ({ o with ln := 2, w := M.V (adH o.sl) }, ldM M (adH o.sl)) := by unfold parkX; rw [if_pos h]
  rw [e1]
  obtain ⟨hKp, hKb⟩ := k.ne_pr S.pr (by decide) (by decide)
  have hl := S.len
  have h0 := S.st0
  have h1 := S.st1
  rw [h] at k
  rw [adH_eq ok.sl]
  obtain ⟨a1, a2⟩ := aft_ld (ad9 o.sl (i64_slot ok.sl) 0 f0w) S.val S.rel.nodup hl (S.val _)
  refine ⟨_, a1, ?_⟩
  rw [← a2]
  refine (park_1 hBm hBK hKp hKb S.pr k ok.w ok.sl (S.val _) (by omega) h0 h1).mono ?_
  rintro ee w' ⟨rfl, k', P', f'⟩
  exact ⟨rfl, ⟨pu, k', fun hh => absurd hh (by simp)⟩, P', f'.more (by simp)⟩
theorem pkd3 (hBm : B ≤ m) (hc : c ≤ 4900) (S : Say p m b n D L c M w) (ok : PkNum o) (h : o.ln = 3) (hBK : B ≤ K) (k : Bk K 180 (PkC o.sl o.ln o.st o.w o.n pu) w) :
    ∃ L', AftP L' (c + 1) (parkX o M).2 ∧ Calls Tryz.prog 105 #[.pointer (some ⟨K, 0, none⟩), .pointer (some ⟨b, 0, none⟩)] w (PkS B p m b n D M.s K e (parkX o M).1 L' (parkX o M).2.s w) := by
  have e1 : parkX o M = ({ o with ln := 4, n := M.V (adP (segF o.sl)) }, ldM M (adP (segF o.sl))) := by unfold parkX; rw [if_neg (by omega), if_neg (by omega), if_pos h]
  rw [e1]
  obtain ⟨hKp, hKb⟩ := k.ne_pr S.pr (by decide) (by decide)
  have hl := S.len
  have h0 := S.st0
  have h1 := S.st1
  rw [h] at k
  rw [adP_eq ok.sl]
  obtain ⟨a1, a2⟩ := aft_ld (ad6 (o.sl / 8) (seg_of ok.sl).2.2 1 f1w) S.val S.rel.nodup hl (S.val _)
  refine ⟨_, a1, ?_⟩
  rw [← a2]
  refine (park_3 hBm hBK hKp hKb S.pr k ok.w ok.sl (S.val _) (by omega) h0 h1).mono ?_
  rintro ee w' ⟨rfl, k', P', f'⟩
  exact ⟨rfl, ⟨pu, k', fun hh => absurd hh (by simp)⟩, P', f'.more (by simp)⟩
theorem pkd6 (hBm : B ≤ m) (hc : c ≤ 4900) (S : Say p m b n D L c M w) (ok : PkNum o) (h : o.ln = 6) (hBK : B ≤ K) (k : Bk K 180 (PkC o.sl o.ln o.st o.w o.n pu) w) :
    ∃ L', AftP L' (c + 1) (parkX o M).2 ∧ Calls Tryz.prog 105 #[.pointer (some ⟨K, 0, none⟩), .pointer (some ⟨b, 0, none⟩)] w (PkS B p m b n D M.s K e (parkX o M).1 L' (parkX o M).2.s w) := by
  have e1 : parkX o M = ({ o with ln := 7, n := M.V (adP (segF o.sl)) }, ldM M (adP (segF o.sl))) := by unfold parkX; rw [if_neg (by omega), if_neg (by omega), if_neg (by omega), if_neg (by omega), if_neg (by omega), if_pos h]
  rw [e1]
  obtain ⟨hKp, hKb⟩ := k.ne_pr S.pr (by decide) (by decide)
  have hl := S.len
  have h0 := S.st0
  have h1 := S.st1
  rw [h] at k
  rw [adP_eq ok.sl]
  obtain ⟨a1, a2⟩ := aft_ld (ad6 (o.sl / 8) (seg_of ok.sl).2.2 1 f1w) S.val S.rel.nodup hl (S.val _)
  refine ⟨_, a1, ?_⟩
  rw [← a2]
  refine (park_6 hBm hBK hKp hKb S.pr k ok.w ok.sl (S.val _) (by omega) h0 h1).mono ?_
  rintro ee w' ⟨rfl, k', P', f'⟩
  exact ⟨rfl, ⟨pu, k', fun hh => absurd hh (by simp)⟩, P', f'.more (by simp)⟩
theorem pkd11 (hBm : B ≤ m) (hc : c ≤ 4900) (S : Say p m b n D L c M w) (ok : PkNum o) (h : o.ln = 11) (hBK : B ≤ K) (k : Bk K 180 (PkC o.sl o.ln o.st o.w o.n pu) w) :
    ∃ L', AftP L' (c + 1) (parkX o M).2 ∧ Calls Tryz.prog 105 #[.pointer (some ⟨K, 0, none⟩), .pointer (some ⟨b, 0, none⟩)] w (PkS B p m b n D M.s K e (parkX o M).1 L' (parkX o M).2.s w) := by
  have e1 : parkX o M = ({ o with ln := 12, n := M.V (adP (segF o.sl)) }, ldM M (adP (segF o.sl))) := by unfold parkX; rw [if_neg (by omega), if_neg (by omega), if_neg (by omega), if_neg (by omega), if_neg (by omega), if_neg (by omega), if_neg (by omega), if_neg (by omega), if_neg (by omega), if_neg (by omega), if_pos h]
  rw [e1]
  obtain ⟨hKp, hKb⟩ := k.ne_pr S.pr (by decide) (by decide)
  have hl := S.len
  have h0 := S.st0
  have h1 := S.st1
  rw [h] at k
  rw [adP_eq ok.sl]
  obtain ⟨a1, a2⟩ := aft_ld (ad6 (o.sl / 8) (seg_of ok.sl).2.2 1 f1w) S.val S.rel.nodup hl (S.val _)
  refine ⟨_, a1, ?_⟩
  rw [← a2]
  refine (park_11 hBm hBK hKp hKb S.pr k ok.w ok.sl (S.val _) (by omega) h0 h1).mono ?_
  rintro ee w' ⟨rfl, k', P', f'⟩
  exact ⟨rfl, ⟨pu, k', fun hh => absurd hh (by simp)⟩, P', f'.more (by simp)⟩
theorem pkd2 (hBm : B ≤ m) (hc : c ≤ 4900) (S : Say p m b n D L c M w) (ok : PkNum o) (h : o.ln = 2) (hBK : B ≤ K) (k : Bk K 180 (PkC o.sl o.ln o.st o.w o.n pu) w) :
    ∃ L', AftP L' (c + 1) (parkX o M).2 ∧ Calls Tryz.prog 105 #[.pointer (some ⟨K, 0, none⟩), .pointer (some ⟨b, 0, none⟩)] w (PkS B p m b n D M.s K e (parkX o M).1 L' (parkX o M).2.s w) := by
  have e1 : parkX o M = ({ o with ln := 3 }, stM M (adH o.sl) (headerW 3 (gW o.w))) := by unfold parkX; rw [if_neg (by omega), if_pos h]
  rw [e1]
  obtain ⟨hKp, hKb⟩ := k.ne_pr S.pr (by decide) (by decide)
  have hl := S.len
  have h0 := S.st0
  have h1 := S.st1
  rw [h] at k
  rw [adH_eq ok.sl]
  obtain ⟨a1, a2⟩ := aft_st (ad9 o.sl (i64_slot ok.sl) 0 f0w) (headerW 3 (gW o.w)) S.val S.rel.nodup hl
  refine ⟨_, a1, ?_⟩
  rw [← a2]
  refine (park_2 hBm hBK hKp hKb S.pr k ok.w ok.sl (by omega) h0 h1).mono ?_
  rintro ee w' ⟨rfl, k', P', f'⟩
  exact ⟨rfl, ⟨pu, k', fun hh => absurd hh (by simp)⟩, P', f'.more (by simp)⟩
theorem pkd5_stays (hBm : B ≤ m) (hc : c ≤ 4900) (S : Say p m b n D L c M w) (ok : PkNum o) (h : o.ln = 5) (hBK : B ≤ K) (hq : M.V (adG (segF o.sl)) ≠ 1) (k : Bk K 180 (PkC o.sl o.ln o.st o.w o.n pu) w) :
    ∃ L', AftP L' (c + 1) (parkX o M).2 ∧ Calls Tryz.prog 105 #[.pointer (some ⟨K, 0, none⟩), .pointer (some ⟨b, 0, none⟩)] w (PkS B p m b n D M.s K e (parkX o M).1 L' (parkX o M).2.s w) := by
  have e1 : parkX o M = ({ o with ln := 0, st := true }, ldM M (adG (segF o.sl))) := by unfold parkX; rw [if_neg (by omega), if_neg (by omega), if_neg (by omega), if_neg (by omega), if_pos h]; simp [hq]
  rw [e1]
  obtain ⟨hKp, hKb⟩ := k.ne_pr S.pr (by decide) (by decide)
  have hl := S.len
  have h0 := S.st0
  have h1 := S.st1
  rw [h] at k
  rw [adG_eq ok.sl] at hq ⊢
  obtain ⟨a1, a2⟩ := aft_ld (ad6 (o.sl / 8) (seg_of ok.sl).2.2 0 f0w) S.val S.rel.nodup hl (S.val _)
  refine ⟨_, a1, ?_⟩
  rw [← a2]
  refine (park_5_stays hBm hBK hKp hKb S.pr k ok.w ok.sl (S.val _) hq (by omega) h0 h1).mono ?_
  rintro ee w' ⟨rfl, k', P', f'⟩
  exact ⟨rfl, ⟨pu, k', fun hh => absurd hh (by simp)⟩, P', f'.more (by simp)⟩
theorem pkd5_on (hBm : B ≤ m) (hc : c ≤ 4900) (S : Say p m b n D L c M w) (ok : PkNum o) (h : o.ln = 5) (hBK : B ≤ K) (hq : M.V (adG (segF o.sl)) = 1) (k : Bk K 180 (PkC o.sl o.ln o.st o.w o.n pu) w) :
    ∃ L', AftP L' (c + 1) (parkX o M).2 ∧ Calls Tryz.prog 105 #[.pointer (some ⟨K, 0, none⟩), .pointer (some ⟨b, 0, none⟩)] w (PkS B p m b n D M.s K e (parkX o M).1 L' (parkX o M).2.s w) := by
  have e1 : parkX o M = ({ o with ln := 6 }, ldM M (adG (segF o.sl))) := by unfold parkX; rw [if_neg (by omega), if_neg (by omega), if_neg (by omega), if_neg (by omega), if_pos h]; simp [hq]
  rw [e1]
  obtain ⟨hKp, hKb⟩ := k.ne_pr S.pr (by decide) (by decide)
  have hl := S.len
  have h0 := S.st0
  have h1 := S.st1
  rw [h] at k
  rw [adG_eq ok.sl] at hq ⊢
  obtain ⟨a1, a2⟩ := aft_ld (ad6 (o.sl / 8) (seg_of ok.sl).2.2 0 f0w) S.val S.rel.nodup hl (S.val _)
  refine ⟨_, a1, ?_⟩
  rw [← a2]
  refine (park_5_on hBm hBK hKp hKb S.pr k ok.w ok.sl (S.val _) hq (by omega) h0 h1).mono ?_
  rintro ee w' ⟨rfl, k', P', f'⟩
  exact ⟨rfl, ⟨pu, k', fun hh => absurd hh (by simp)⟩, P', f'.more (by simp)⟩
theorem pkd8_on (hBm : B ≤ m) (hc : c ≤ 4900) (S : Say p m b n D L c M w) (ok : PkNum o) (h : o.ln = 8) (hBK : B ≤ K) (hq : M.V (adG (segF o.sl)) = 1) (k : Bk K 180 (PkC o.sl o.ln o.st o.w o.n pu) w) :
    ∃ L', AftP L' (c + 1) (parkX o M).2 ∧ Calls Tryz.prog 105 #[.pointer (some ⟨K, 0, none⟩), .pointer (some ⟨b, 0, none⟩)] w (PkS B p m b n D M.s K e (parkX o M).1 L' (parkX o M).2.s w) := by
  have e1 : parkX o M = ({ o with ln := 9 }, ldM M (adG (segF o.sl))) := by unfold parkX; rw [if_neg (by omega), if_neg (by omega), if_neg (by omega), if_neg (by omega), if_neg (by omega), if_neg (by omega), if_neg (by omega), if_pos h]; simp [hq]
  rw [e1]
  obtain ⟨hKp, hKb⟩ := k.ne_pr S.pr (by decide) (by decide)
  have hl := S.len
  have h0 := S.st0
  have h1 := S.st1
  rw [h] at k
  rw [adG_eq ok.sl] at hq ⊢
  obtain ⟨a1, a2⟩ := aft_ld (ad6 (o.sl / 8) (seg_of ok.sl).2.2 0 f0w) S.val S.rel.nodup hl (S.val _)
  refine ⟨_, a1, ?_⟩
  rw [← a2]
  refine (park_8_on hBm hBK hKp hKb S.pr k ok.w ok.sl (S.val _) hq (by omega) h0 h1).mono ?_
  rintro ee w' ⟨rfl, k', P', f'⟩
  exact ⟨rfl, ⟨pu, k', fun hh => absurd hh (by simp)⟩, P', f'.more (by simp)⟩
theorem pkd8_back (hBm : B ≤ m) (hc : c ≤ 4900) (S : Say p m b n D L c M w) (ok : PkNum o) (h : o.ln = 8) (hBK : B ≤ K) (hq : M.V (adG (segF o.sl)) ≠ 1) (k : Bk K 180 (PkC o.sl o.ln o.st o.w o.n pu) w) :
    ∃ L', AftP L' (c + 1) (parkX o M).2 ∧ Calls Tryz.prog 105 #[.pointer (some ⟨K, 0, none⟩), .pointer (some ⟨b, 0, none⟩)] w (PkS B p m b n D M.s K e (parkX o M).1 L' (parkX o M).2.s w) := by
  have e1 : parkX o M = ({ o with ln := 3 }, ldM M (adG (segF o.sl))) := by unfold parkX; rw [if_neg (by omega), if_neg (by omega), if_neg (by omega), if_neg (by omega), if_neg (by omega), if_neg (by omega), if_neg (by omega), if_pos h]; simp [hq]
  rw [e1]
  obtain ⟨hKp, hKb⟩ := k.ne_pr S.pr (by decide) (by decide)
  have hl := S.len
  have h0 := S.st0
  have h1 := S.st1
  rw [h] at k
  rw [adG_eq ok.sl] at hq ⊢
  obtain ⟨a1, a2⟩ := aft_ld (ad6 (o.sl / 8) (seg_of ok.sl).2.2 0 f0w) S.val S.rel.nodup hl (S.val _)
  refine ⟨_, a1, ?_⟩
  rw [← a2]
  refine (park_8_back hBm hBK hKp hKb S.pr k ok.w ok.sl (S.val _) hq (by omega) h0 h1).mono ?_
  rintro ee w' ⟨rfl, k', P', f'⟩
  exact ⟨rfl, ⟨pu, k', fun hh => absurd hh (by simp)⟩, P', f'.more (by simp)⟩
theorem pkd4_yes (hBm : B ≤ m) (hc : c ≤ 4900) (S : Say p m b n D L c M w) (ok : PkNum o) (h : o.ln = 4) (hBK : B ≤ K) (hq : casV M.V (adP (segF o.sl)) o.n = true) (k : Bk K 180 (PkC o.sl o.ln o.st o.w o.n pu) w) :
    ∃ L', AftP L' (c + 1) (parkX o M).2 ∧ Calls Tryz.prog 105 #[.pointer (some ⟨K, 0, none⟩), .pointer (some ⟨b, 0, none⟩)] w (PkS B p m b n D M.s K e (parkX o M).1 L' (parkX o M).2.s w) := by
  have e1 : parkX o M = ({ o with ln := 5 }, csM M (adP (segF o.sl)) o.n (up64 o.n)) := by unfold parkX; rw [if_neg (by omega), if_neg (by omega), if_neg (by omega), if_pos h]; simp [hq]
  rw [e1]
  obtain ⟨hKp, hKb⟩ := k.ne_pr S.pr (by decide) (by decide)
  have hl := S.len
  have h0 := S.st0
  have h1 := S.st1
  rw [h] at k
  rw [adP_eq ok.sl] at hq ⊢
  have hc' := (casA_V _ o.n S.val).trans hq
  obtain ⟨a1, a2⟩ := aft_cs (ad6 (o.sl / 8) (seg_of ok.sl).2.2 1 f1w) o.n (up64 o.n) hc' S.val S.rel.nodup hl
  refine ⟨_, a1, ?_⟩
  rw [← a2]
  refine (park_4_yes hBm hBK hKp hKb S.pr k ok.w ok.sl (up_wrap o.n) hc' (by omega) h0 h1).mono ?_
  rintro ee w' ⟨rfl, k', P', f'⟩
  exact ⟨rfl, ⟨pu, k', fun hh => absurd hh (by simp)⟩, P', f'.more (by simp)⟩
theorem pkd4_no (hBm : B ≤ m) (hc : c ≤ 4900) (S : Say p m b n D L c M w) (ok : PkNum o) (h : o.ln = 4) (hBK : B ≤ K) (hq : casV M.V (adP (segF o.sl)) o.n = false) (k : Bk K 180 (PkC o.sl o.ln o.st o.w o.n pu) w) :
    ∃ L', AftP L' (c + 1) (parkX o M).2 ∧ Calls Tryz.prog 105 #[.pointer (some ⟨K, 0, none⟩), .pointer (some ⟨b, 0, none⟩)] w (PkS B p m b n D M.s K e (parkX o M).1 L' (parkX o M).2.s w) := by
  have e1 : parkX o M = ({ o with ln := 3 }, csM M (adP (segF o.sl)) o.n (up64 o.n)) := by unfold parkX; rw [if_neg (by omega), if_neg (by omega), if_neg (by omega), if_pos h]; simp [hq]
  rw [e1]
  obtain ⟨hKp, hKb⟩ := k.ne_pr S.pr (by decide) (by decide)
  have hl := S.len
  have h0 := S.st0
  have h1 := S.st1
  rw [h] at k
  rw [adP_eq ok.sl] at hq ⊢
  have hc' := (casA_V _ o.n S.val).trans hq
  obtain ⟨a1, a2⟩ := aft_cs (ad6 (o.sl / 8) (seg_of ok.sl).2.2 1 f1w) o.n (up64 o.n) hc' S.val S.rel.nodup hl
  refine ⟨_, a1, ?_⟩
  rw [← a2]
  refine (park_4_no hBm hBK hKp hKb S.pr k ok.w ok.sl (up_wrap o.n) hc' (by omega) h0 h1).mono ?_
  rintro ee w' ⟨rfl, k', P', f'⟩
  exact ⟨rfl, ⟨pu, k', fun hh => absurd hh (by simp)⟩, P', f'.more (by simp)⟩
theorem pkd7_yes (hBm : B ≤ m) (hc : c ≤ 4900) (S : Say p m b n D L c M w) (ok : PkNum o) (h : o.ln = 7) (hBK : B ≤ K) (hq : casV M.V (adP (segF o.sl)) o.n = true) (k : Bk K 180 (PkC o.sl o.ln o.st o.w o.n pu) w) :
    ∃ L', AftP L' (c + 1) (parkX o M).2 ∧ Calls Tryz.prog 105 #[.pointer (some ⟨K, 0, none⟩), .pointer (some ⟨b, 0, none⟩)] w (PkS B p m b n D M.s K e (parkX o M).1 L' (parkX o M).2.s w) := by
  have e1 : parkX o M = ({ o with ln := 8 }, csM M (adP (segF o.sl)) o.n (down64 o.n)) := by unfold parkX; rw [if_neg (by omega), if_neg (by omega), if_neg (by omega), if_neg (by omega), if_neg (by omega), if_neg (by omega), if_pos h]; simp [hq]
  rw [e1]
  obtain ⟨hKp, hKb⟩ := k.ne_pr S.pr (by decide) (by decide)
  have hl := S.len
  have h0 := S.st0
  have h1 := S.st1
  rw [h] at k
  rw [adP_eq ok.sl] at hq ⊢
  have hc' := (casA_V _ o.n S.val).trans hq
  obtain ⟨a1, a2⟩ := aft_cs (ad6 (o.sl / 8) (seg_of ok.sl).2.2 1 f1w) o.n (down64 o.n) hc' S.val S.rel.nodup hl
  refine ⟨_, a1, ?_⟩
  rw [← a2]
  refine (park_7_yes hBm hBK hKp hKb S.pr k ok.w ok.sl (down_wrap' o.n) hc' (by omega) h0 h1).mono ?_
  rintro ee w' ⟨rfl, k', P', f'⟩
  exact ⟨rfl, ⟨pu, k', fun hh => absurd hh (by simp)⟩, P', f'.more (by simp)⟩
theorem pkd7_no (hBm : B ≤ m) (hc : c ≤ 4900) (S : Say p m b n D L c M w) (ok : PkNum o) (h : o.ln = 7) (hBK : B ≤ K) (hq : casV M.V (adP (segF o.sl)) o.n = false) (k : Bk K 180 (PkC o.sl o.ln o.st o.w o.n pu) w) :
    ∃ L', AftP L' (c + 1) (parkX o M).2 ∧ Calls Tryz.prog 105 #[.pointer (some ⟨K, 0, none⟩), .pointer (some ⟨b, 0, none⟩)] w (PkS B p m b n D M.s K e (parkX o M).1 L' (parkX o M).2.s w) := by
  have e1 : parkX o M = ({ o with ln := 6 }, csM M (adP (segF o.sl)) o.n (down64 o.n)) := by unfold parkX; rw [if_neg (by omega), if_neg (by omega), if_neg (by omega), if_neg (by omega), if_neg (by omega), if_neg (by omega), if_pos h]; simp [hq]
  rw [e1]
  obtain ⟨hKp, hKb⟩ := k.ne_pr S.pr (by decide) (by decide)
  have hl := S.len
  have h0 := S.st0
  have h1 := S.st1
  rw [h] at k
  rw [adP_eq ok.sl] at hq ⊢
  have hc' := (casA_V _ o.n S.val).trans hq
  obtain ⟨a1, a2⟩ := aft_cs (ad6 (o.sl / 8) (seg_of ok.sl).2.2 1 f1w) o.n (down64 o.n) hc' S.val S.rel.nodup hl
  refine ⟨_, a1, ?_⟩
  rw [← a2]
  refine (park_7_no hBm hBK hKp hKb S.pr k ok.w ok.sl (down_wrap' o.n) hc' (by omega) h0 h1).mono ?_
  rintro ee w' ⟨rfl, k', P', f'⟩
  exact ⟨rfl, ⟨pu, k', fun hh => absurd hh (by simp)⟩, P', f'.more (by simp)⟩
theorem pkd12_yes (hBm : B ≤ m) (hc : c ≤ 4900) (S : Say p m b n D L c M w) (ok : PkNum o) (h : o.ln = 12) (hBK : B ≤ K) (hq : casV M.V (adP (segF o.sl)) o.n = true) (k : Bk K 180 (PkC o.sl o.ln o.st o.w o.n pu) w) :
    ∃ L', AftP L' (c + 1) (parkX o M).2 ∧ Calls Tryz.prog 105 #[.pointer (some ⟨K, 0, none⟩), .pointer (some ⟨b, 0, none⟩)] w (PkS B p m b n D M.s K e (parkX o M).1 L' (parkX o M).2.s w) := by
  have e1 : parkX o M = ({ o with ln := 0 }, csM M (adP (segF o.sl)) o.n (up64 o.n)) := by unfold parkX; rw [if_neg (by omega), if_neg (by omega), if_neg (by omega), if_neg (by omega), if_neg (by omega), if_neg (by omega), if_neg (by omega), if_neg (by omega), if_neg (by omega), if_neg (by omega), if_neg (by omega), if_pos h]; simp [hq]
  rw [e1]
  obtain ⟨hKp, hKb⟩ := k.ne_pr S.pr (by decide) (by decide)
  have hl := S.len
  have h0 := S.st0
  have h1 := S.st1
  rw [h] at k
  rw [adP_eq ok.sl] at hq ⊢
  have hc' := (casA_V _ o.n S.val).trans hq
  obtain ⟨a1, a2⟩ := aft_cs (ad6 (o.sl / 8) (seg_of ok.sl).2.2 1 f1w) o.n (up64 o.n) hc' S.val S.rel.nodup hl
  refine ⟨_, a1, ?_⟩
  rw [← a2]
  refine (park_12_yes hBm hBK hKp hKb S.pr k ok.w ok.sl (up_wrap o.n) hc' (by omega) h0 h1).mono ?_
  rintro ee w' ⟨rfl, k', P', f'⟩
  exact ⟨rfl, ⟨pu, k', fun hh => absurd hh (by simp)⟩, P', f'.more (by simp)⟩
theorem pkd12_no (hBm : B ≤ m) (hc : c ≤ 4900) (S : Say p m b n D L c M w) (ok : PkNum o) (h : o.ln = 12) (hBK : B ≤ K) (hq : casV M.V (adP (segF o.sl)) o.n = false) (k : Bk K 180 (PkC o.sl o.ln o.st o.w o.n pu) w) :
    ∃ L', AftP L' (c + 1) (parkX o M).2 ∧ Calls Tryz.prog 105 #[.pointer (some ⟨K, 0, none⟩), .pointer (some ⟨b, 0, none⟩)] w (PkS B p m b n D M.s K e (parkX o M).1 L' (parkX o M).2.s w) := by
  have e1 : parkX o M = ({ o with ln := 11 }, csM M (adP (segF o.sl)) o.n (up64 o.n)) := by unfold parkX; rw [if_neg (by omega), if_neg (by omega), if_neg (by omega), if_neg (by omega), if_neg (by omega), if_neg (by omega), if_neg (by omega), if_neg (by omega), if_neg (by omega), if_neg (by omega), if_neg (by omega), if_pos h]; simp [hq]
  rw [e1]
  obtain ⟨hKp, hKb⟩ := k.ne_pr S.pr (by decide) (by decide)
  have hl := S.len
  have h0 := S.st0
  have h1 := S.st1
  rw [h] at k
  rw [adP_eq ok.sl] at hq ⊢
  have hc' := (casA_V _ o.n S.val).trans hq
  obtain ⟨a1, a2⟩ := aft_cs (ad6 (o.sl / 8) (seg_of ok.sl).2.2 1 f1w) o.n (up64 o.n) hc' S.val S.rel.nodup hl
  refine ⟨_, a1, ?_⟩
  rw [← a2]
  refine (park_12_no hBm hBK hKp hKb S.pr k ok.w ok.sl (up_wrap o.n) hc' (by omega) h0 h1).mono ?_
  rintro ee w' ⟨rfl, k', P', f'⟩
  exact ⟨rfl, ⟨pu, k', fun hh => absurd hh (by simp)⟩, P', f'.more (by simp)⟩
theorem pkd9_no (hBm : B ≤ m) (hc : c ≤ 4900) (S : Say p m b n D L c M w) (ok : PkNum o) (h : o.ln = 9) (hBK : B ≤ K) (hq : casV M.V (adH o.sl) (headerW 3 (gW o.w)) = false) (k : Bk K 180 (PkC o.sl o.ln o.st o.w o.n pu) w) :
    ∃ L', AftP L' (c + 1) (parkX o M).2 ∧ Calls Tryz.prog 105 #[.pointer (some ⟨K, 0, none⟩), .pointer (some ⟨b, 0, none⟩)] w (PkS B p m b n D M.s K e (parkX o M).1 L' (parkX o M).2.s w) := by
  have e1 : parkX o M = ({ o with ln := 11 }, csM M (adH o.sl) (headerW 3 (gW o.w)) (headerW 0 (gW o.w))) := by unfold parkX; rw [if_neg (by omega), if_neg (by omega), if_neg (by omega), if_neg (by omega), if_neg (by omega), if_neg (by omega), if_neg (by omega), if_neg (by omega), if_pos h]; simp [hq]
  rw [e1]
  obtain ⟨hKp, hKb⟩ := k.ne_pr S.pr (by decide) (by decide)
  have hl := S.len
  have h0 := S.st0
  have h1 := S.st1
  rw [h] at k
  rw [adH_eq ok.sl] at hq ⊢
  have hc' := (casA_V _ (headerW 3 (gW o.w)) S.val).trans hq
  obtain ⟨a1, a2⟩ := aft_cs (ad9 o.sl (i64_slot ok.sl) 0 f0w) (headerW 3 (gW o.w)) (headerW 0 (gW o.w)) hc' S.val S.rel.nodup hl
  refine ⟨_, a1, ?_⟩
  rw [← a2]
  refine (park_9_no hBm hBK hKp hKb S.pr k ok.w ok.sl hc' (by omega) h0 h1).mono ?_
  rintro ee w' ⟨rfl, k', P', f'⟩
  exact ⟨rfl, ⟨pu, k', fun hh => absurd hh (by simp)⟩, P', f'.more (by simp)⟩
theorem pkd9_yes (hBm : B ≤ m) (hc : c ≤ 4900) (S : Say p m b n D L c M w) (ok : PkNum o) (h : o.ln = 9) (hBK : B ≤ K) (hq : casV M.V (adH o.sl) (headerW 3 (gW o.w)) = true) (k : Bk K 180 (PkC o.sl o.ln o.st o.w o.n pu) w) :
    ∃ L', AftP L' (c + 1) (parkX o M).2 ∧ Calls Tryz.prog 105 #[.pointer (some ⟨K, 0, none⟩), .pointer (some ⟨b, 0, none⟩)] w (PkS B p m b n D M.s K e (parkX o M).1 L' (parkX o M).2.s w) := by
  have e1 : parkX o M = ({ o with ln := 10 }, csM M (adH o.sl) (headerW 3 (gW o.w)) (headerW 0 (gW o.w))) := by unfold parkX; rw [if_neg (by omega), if_neg (by omega), if_neg (by omega), if_neg (by omega), if_neg (by omega), if_neg (by omega), if_neg (by omega), if_neg (by omega), if_pos h]; simp [hq]
  rw [e1]
  obtain ⟨hKp, hKb⟩ := k.ne_pr S.pr (by decide) (by decide)
  have hl := S.len
  have h0 := S.st0
  have h1 := S.st1
  rw [h] at k
  rw [adH_eq ok.sl] at hq ⊢
  have hc' := (casA_V _ (headerW 3 (gW o.w)) S.val).trans hq
  obtain ⟨a1, a2⟩ := aft_cs (ad9 o.sl (i64_slot ok.sl) 0 f0w) (headerW 3 (gW o.w)) (headerW 0 (gW o.w)) hc' S.val S.rel.nodup hl
  refine ⟨_, a1, ?_⟩
  rw [← a2]
  refine (park_9_yes hBm hBK hKp hKb S.pr k ok.w ok.sl hc' (by omega) h0 h1).mono ?_
  rintro ee w' ⟨rfl, ⟨e', k2, R2, he⟩, P', f'⟩
  have hp := ok.psh (by omega) (by omega)
  exact ⟨rfl, ⟨_, k2, fun _ => ⟨e', rfl, by show PushD e' o.psh w'; rw [hp]; exact ⟨0, R2, u64_0, u64_0, by simp, ok.sl⟩, by have := k.lt; omega, .inr he⟩⟩, P', f'.more (by simp)⟩
theorem pkd10 (hBm : B ≤ m) (hc : c ≤ 4900) (S : Say p m b n D L c M w) (ok : PkNum o) (h : o.ln = 10) (hBK : B ≤ K) (hBe : B ≤ e) (hpu : pu = some ⟨e, 0, none⟩) (R : PushD e o.psh w) (k : Bk K 180 (PkC o.sl o.ln o.st o.w o.n pu) w) :
    ∃ L', AftP L' (c + 1) (parkX o M).2 ∧ Calls Tryz.prog 105 #[.pointer (some ⟨K, 0, none⟩), .pointer (some ⟨b, 0, none⟩)] w (PkS B p m b n D M.s K e (parkX o M).1 L' (parkX o M).2.s w) := by
  have e1 : parkX o M = ({ o with ln := if (pushX o.psh M).1.nx = 0 then 0 else 10, psh := (pushX o.psh M).1 }, (pushX o.psh M).2) := by unfold parkX; rw [if_neg (by omega), if_neg (by omega), if_neg (by omega), if_neg (by omega), if_neg (by omega), if_neg (by omega), if_neg (by omega), if_neg (by omega), if_neg (by omega), if_pos h]
  rw [e1]
  subst hpu
  obtain ⟨hKp, hKb⟩ := k.ne_pr S.pr (by decide) (by decide)
  have hKe : K ≠ e := by obtain ⟨nn, R1, _⟩ := R; exact k.ne_ref R1 (by decide)
  rw [h] at k
  obtain ⟨nn, L', A', ⟨n1, n2, n3, n4⟩, hs⟩ := push_doc hBm hBe hc S R
  refine ⟨L', A', ?_⟩
  by_cases hz : (pushX o.psh M).1.nx = 0
  · rw [if_pos hz]
    refine Calls.mono (park_10_end hBK hKp hKb hKe k ok.w hz hs) ?_
    rintro ee w' ⟨rfl, k', R', P', f'⟩
    exact ⟨rfl, ⟨_, k', fun hh => absurd hh (by simp)⟩, P', f'⟩
  · rw [if_neg hz]
    refine Calls.mono (park_10_on hBK hKp hKb hKe k ok.w hz hs) ?_
    rintro ee w' ⟨rfl, k', R', P', f'⟩
    exact ⟨rfl, ⟨_, k', fun _ => ⟨e, rfl, ⟨nn, R', n1, n2, n3, n4⟩, hKe, .inl rfl⟩⟩, P', f'⟩
theorem park_doc (hBm : B ≤ m) (hc : c ≤ 4900) (S : Say p m b n D L c M w) (ok : PkNum o) (R : PkD B K e o w) :
    ∃ L', AftP L' (c + 1) (parkX o M).2 ∧ Calls Tryz.prog 105 #[.pointer (some ⟨K, 0, none⟩), .pointer (some ⟨b, 0, none⟩)] w (PkS B p m b n D M.s K e (parkX o M).1 L' (parkX o M).2.s w) := by
  obtain ⟨hBK, hBe, pu, k, h10⟩ := R
  have ln := ok.ln
  obtain h | h | h | h | h | h | h | h | h | h | h | h | h : o.ln = 0 ∨ o.ln = 1 ∨ o.ln = 2 ∨ o.ln = 3 ∨ o.ln = 4 ∨ o.ln = 5 ∨ o.ln = 6 ∨ o.ln = 7 ∨ o.ln = 8 ∨ o.ln = 9 ∨ o.ln = 10 ∨ o.ln = 11 ∨ o.ln = 12 := by omega
  · have e1 : parkX o M = (o, M) := by unfold parkX; rw [if_neg (by omega), if_neg (by omega), if_neg (by omega), if_neg (by omega), if_neg (by omega), if_neg (by omega), if_neg (by omega), if_neg (by omega), if_neg (by omega), if_neg (by omega), if_neg (by omega), if_neg (by omega)]
    rw [e1]
    have k0 := k
    rw [h] at k0
    refine ⟨L, S.aft, (park_0 (b := b) k0 ok.w).mono ?_⟩
    rintro ee w' ⟨rfl, rfl⟩
    exact ⟨rfl, ⟨pu, k, fun hh => absurd (h.symm.trans hh) (by decide)⟩, S.pr, .of_below (Below.refl _ _) (Nat.le_trans hBK (Nat.le_of_lt k.lt))⟩
  · exact pkd1 hBm hc S ok h hBK k
  · exact pkd2 hBm hc S ok h hBK k
  · exact pkd3 hBm hc S ok h hBK k
  · by_cases hq : casV M.V (adP (segF o.sl)) o.n = true
    · exact pkd4_yes hBm hc S ok h hBK hq k
    · exact pkd4_no hBm hc S ok h hBK (by simpa using hq) k
  · by_cases hq : M.V (adG (segF o.sl)) = 1
    · exact pkd5_on hBm hc S ok h hBK hq k
    · exact pkd5_stays hBm hc S ok h hBK hq k
  · exact pkd6 hBm hc S ok h hBK k
  · by_cases hq : casV M.V (adP (segF o.sl)) o.n = true
    · exact pkd7_yes hBm hc S ok h hBK hq k
    · exact pkd7_no hBm hc S ok h hBK (by simpa using hq) k
  · by_cases hq : M.V (adG (segF o.sl)) = 1
    · exact pkd8_on hBm hc S ok h hBK hq k
    · exact pkd8_back hBm hc S ok h hBK hq k
  · by_cases hq : casV M.V (adH o.sl) (headerW 3 (gW o.w)) = true
    · exact pkd9_yes hBm hc S ok h hBK hq k
    · exact pkd9_no hBm hc S ok h hBK (by simpa using hq) k
  · obtain ⟨hpu, R⟩ := h10 h
    exact pkd10 hBm hc S ok h hBK hBe hpu R k
  · exact pkd11 hBm hc S ok h hBK k
  · by_cases hq : casV M.V (adP (segF o.sl)) o.n = true
    · exact pkd12_yes hBm hc S ok h hBK hq k
    · exact pkd12_no hBm hc S ok h hBK (by simpa using hq) k
theorem PkR.doc {n0 : Nat} (h : ∃ pu, Bk K 180 (PkC o.sl o.ln o.st o.w o.n pu) w ∧ PkR K e n0 o pu w) (hK : B ≤ K) (he : B ≤ e) (hn : B ≤ n0) : ∃ e', PkD B K e' o w ∧ (e' = e ∨ n0 ≤ e') := by
  obtain ⟨pu, k, r⟩ := h
  by_cases hh : o.ln = 10
  · obtain ⟨e', r1, r2, r3, r4⟩ := r hh
    exact ⟨e', ⟨hK, by rcases r4 with rfl | r4 <;> omega, pu, k, fun _ => ⟨r1, r2⟩⟩, r4⟩
  · exact ⟨e, ⟨hK, he, pu, k, fun h => absurd h hh⟩, .inl rfl⟩
end
end Go.Proofs.YtmjcbjcnmgleaaaGreatDoor
namespace Go.Proofs.YtmjcbjcnmgleaaaGreatDoor
open Go.RowKit Go.Maps
section
variable {n : Nat} {S : List Int} {T : Int} {M : MS}
def Mv (n : Nat) (x : Int) (M : MS) (S : List Int) (T : Int) (M' : MS) (S' : List Int) (T' : Int) : Prop :=
  ∀ o : TO, (∀ y ∈ pend o, y ≠ x) → OpOk n M S T o → OpOk n M' S' T' o
end
end Go.Proofs.YtmjcbjcnmgleaaaGreatDoor
namespace Go.Proofs.YtmjcbjcnmgleaaaGreatDoor
open Go.RowKit Go.Maps
theorem header_form (s g : Int) (h0 : 0 ≤ s) (h1 : s ≤ 4) (g0 : 0 ≤ g) (g1 : g < 4294967296) : headerW s g = s + g * 8 := by
  unfold headerW stS pw
  have e3 : (2 : Int) ^ 3 = 8 := by decide
  have e32 : (2 : Int) ^ 32 = 4294967296 := by decide
  rw [p0, e3, e32, Int.emod_eq_of_lt g0 g1]
  split
  · have : s = 4 := by omega
    subst this; omega
  · rw [Int.emod_eq_of_lt h0 (by omega)]; omega
section
variable {n : Nat} {S : List Int} {T : Int} {M : MA} {mo : Int} {lst : Int → Int}
theorem stW_header (s g : Int) (h0 : 0 ≤ s) (h1 : s ≤ 4) (g0 : 0 ≤ g) (g1 : g < 4294967296) : stW (headerW s g) = s := by
  rw [header_form s g h0 h1 g0 g1]
  unfold stW fld
  have e3 : (2 : Int) ^ 3 = 8 := by decide
  rw [e3, p0]
  omega
def Hg (M : MA) (mo : Int) (lst : Int → Int) (st z : Int) : Prop := ∃ g, M.hdr z = headerW st g ∧ lst z ≤ g ∧ 0 ≤ g ∧ g ≤ mo
def PkOk (n : Nat) (M : MA) (S : List Int) (T mo : Int) (lst : Int → Int) (o : PO) : Prop :=
  (0 ≤ o.sl ∧ o.sl < n) ∧ (o.psh = ⟨1, 0, o.sl⟩ ∨ o.ln = 10) ∧ o.psh.to = o.sl ∧
  ((o.ln = 1 ∧ Hg M mo lst 0 o.sl) ∨ ∃ g, gW o.w = g ∧ lst o.sl ≤ g ∧ 0 ≤ g ∧ g ≤ mo ∧ ((o.ln = 2 ∧ M.hdr o.sl = headerW 0 g) ∨ (3 ≤ o.ln ∧ o.ln ≤ 9 ∧ M.hdr o.sl = headerW 3 g) ∨ (o.ln = 10 ∧ M.hdr o.sl = headerW 0 g ∧ OpOk n M.ms S T (.push o.psh))))
def wpP (M : MA) (o : PO) : Nat := if 9 ≤ o.ln ∨ M.sst (segF o.sl) = 1 then 1 else 0
def remP (M : MA) (o : PO) : Nat :=
  if o.ln = 10 then remF M.ms (.push o.psh)
  else if o.ln = 9 then 6
  else if M.sst (segF o.sl) = 1 then
    (if o.ln = 8 then 7 else if o.ln = 7 then (if M.spk (segF o.sl) = o.n then 8 else 10) else if o.ln = 6 then 9 else if o.ln = 5 then 10 else if o.ln = 4 then (if M.spk (segF o.sl) = o.n then 11 else 13) else if o.ln = 3 then 12 else if o.ln = 2 then 13 else 14)
  else (if o.ln = 5 then 1 else if o.ln = 4 then (if M.spk (segF o.sl) = o.n then 2 else 4) else if o.ln = 3 then 3 else if o.ln = 2 then 4 else if o.ln = 1 then 5 else if o.ln = 8 then 4 else if o.ln = 7 then (if M.spk (segF o.sl) = o.n then 5 else 7) else 6)
structure Lv (n : Nat) (x : Int) (M : MA) (S : List Int) (T : Int) (M' : MA) (S' : List Int) (T' : Int) : Prop where
  stk : Stk M'.ms S' T'
  t0 : T ≤ T'
  t1 : T' ≤ T + 1
  mv : Mv n x M.ms S T M'.ms S' T'
  hdr : ∀ z, z ≠ x → M'.hdr z = M.hdr z
  sst : M'.sst = M.sst
  spk : ∀ g, g ≠ segF x → M'.spk g = M.spk g
end
end Go.Proofs.YtmjcbjcnmgleaaaGreatDoor
