/-
  The plain side of layer 3: which command may be, its bytes, and what follows of scripts; no condition.
-/
import Derived.Test.YtlgfdemggkiojaaDoorPlain
namespace Go.Proofs.YtlgfdemggkiojaaDoor

/-- The least byte of a number. -/
def lo (x : Int) : UInt8 := UInt8.ofNat (x % 256).toNat
theorem lo_toNat (x : Int) : ((lo x).toNat : Int) = x % 256 := by
  unfold lo
  rw [UInt8.toNat_ofNat']
  omega
theorem lo_of (u : UInt8) : lo (u.toNat : Int) = u := by
  unfold lo
  have := UInt8.toNat_lt u
  rw [show ((u.toNat : Int) % 256).toNat = u.toNat by omega]
  simp
/-- A command's bytes. -/
def codeC (c : Cm) : List UInt8 :=
  if c.kind = 1 then [lo c.at_]
  else if c.kind = 3 then [lo (c.kind + 126), lo c.thr]
  else if c.kind = 4 then [lo (c.kind + 126), lo c.sch]
  else if c.kind = 5 then [lo (c.kind + 126), lo c.at_]
  else if c.kind = 6 then [lo (c.kind + 126), lo c.at_]
  else if c.kind = 9 then [lo (c.kind + 126), lo c.thr, lo c.op, lo c.key, lo c.val]
  else [lo (c.kind + 126)]
/-- May it be? -/
def mayC (c : Cm) : Bool := decide (1 ≤ c.kind ∧ c.kind ≤ 9) && inB c && decide (readC c.kind (codeC c) = c.bare)

theorem codeC_shift (c : Cm) (o : Int) : codeC (c.shift o) = codeC c := rfl
theorem codeC_bare (c : Cm) : codeC c.bare = codeC c := rfl
theorem inB_bare (c : Cm) : inB c.bare = inB c := rfl
theorem inB_shift (c : Cm) (o : Int) : inB (c.shift o) = inB c := rfl
theorem mayC_shift (c : Cm) (o : Int) : mayC (c.shift o) = mayC c := rfl
theorem mayC_bare (c : Cm) : mayC c.bare = mayC c := rfl
theorem codeC_length (c : Cm) : (codeC c).length = sizeOf' c.kind := by
  unfold codeC sizeOf'
  by_cases h1 : c.kind = 1
  · simp [h1]
  · repeat' split
    all_goals first | rfl | (exfalso; omega)
theorem codeC_ne (c : Cm) : codeC c ≠ [] := by
  intro h
  have h1 := codeC_length c
  have h2 := sizeOf_bd c.kind
  rw [h] at h1
  simp at h1
  omega
theorem kind_cases {k : Int} (h1 : 1 ≤ k) (h9 : k ≤ 9) : k = 1 ∨ k = 2 ∨ k = 3 ∨ k = 4 ∨ k = 5 ∨ k = 6 ∨ k = 7 ∨ k = 8 ∨ k = 9 := by omega
theorem byt_cons_zero (u : UInt8) (l : List UInt8) : byt (u :: l) 0 = (u.toNat : Int) := rfl
theorem byt_append (l r : List UInt8) (i : Nat) (h : i < l.length) : byt (l ++ r) i = byt l i := by
  unfold byt
  rw [List.getD_eq_getElem?_getD, List.getD_eq_getElem?_getD, List.getElem?_append_left h]
/-- What a command reads as does not hang on what stands behind. -/
theorem readC_append (k : Int) (l r : List UInt8) (h : sizeOf' k ≤ l.length) : readC k (l ++ r) = readC k l := by
  unfold sizeOf' at h
  unfold readC
  repeat' split
  all_goals (first | rfl | skip)
  all_goals
    simp only [*] at h
    simp at h
    repeat rw [byt_append _ _ _ (by omega)]
theorem readC_bare (k : Int) (b : List UInt8) : (readC k b).bare = readC k b := by
  unfold readC bareC
  repeat' split
  all_goals rfl
theorem readC_kind (k : Int) (b : List UInt8) : (readC k b).kind = k := by
  unfold readC bareC
  repeat' split
  all_goals rfl
/-- The first byte of a command's bytes says its kind. -/
theorem kindOf_code (c : Cm) (h1 : 2 ≤ c.kind) (h9 : c.kind ≤ 9) (r : List UInt8) : kindOf (byt (codeC c ++ r) 0) = c.kind := by
  have hb : byt (codeC c ++ r) 0 = c.kind + 126 := by
    rw [byt_append _ _ _ (List.length_pos_iff.2 (codeC_ne c))]
    have hl := lo_toNat (c.kind + 126)
    unfold codeC
    rw [if_neg (by omega)]
    repeat' split
    all_goals (rw [byt_cons_zero, hl]; omega)
  rw [hb]
  unfold kindOf
  rw [if_neg (by omega), if_pos (by omega)]
  omega
theorem kindOf_pick (c : Cm) (h : c.kind = 1) (r : List UInt8) (ha : c.at_ % 256 < 128) : kindOf (byt (codeC c ++ r) 0) = 1 := by
  have hl := lo_toNat c.at_
  unfold codeC
  rw [if_pos h]
  show kindOf (byt (lo c.at_ :: r) 0) = 1
  rw [byt_cons_zero, hl]
  unfold kindOf
  rw [if_pos ha]
theorem kindOf_not_pick (c : Cm) (h : c.kind = 1) (r : List UInt8) (ha : ¬ c.at_ % 256 < 128) : kindOf (byt (codeC c ++ r) 0) ≠ 1 := by
  have hl := lo_toNat c.at_
  unfold codeC
  rw [if_pos h]
  show kindOf (byt (lo c.at_ :: r) 0) ≠ 1
  rw [byt_cons_zero, hl]
  unfold kindOf
  rw [if_neg ha]
  split <;> omega
theorem mayC_kind {c : Cm} (h : mayC c = true) : 1 ≤ c.kind ∧ c.kind ≤ 9 ∧ inB c = true ∧ readC c.kind (codeC c) = c.bare := by
  simp only [mayC, Bool.and_eq_true, decide_eq_true_eq] at h
  exact ⟨h.1.1.1, h.1.1.2, h.1.2, h.2⟩
theorem mayC_first {c : Cm} (h : mayC c = true) (r : List UInt8) : kindOf (byt (codeC c ++ r) 0) = c.kind := by
  obtain ⟨h1, h9, hi, _⟩ := mayC_kind h
  by_cases hk : c.kind = 1
  · rw [hk]
    refine kindOf_pick c hk r ?_
    simp only [inB, if_pos hk, decide_eq_true_eq] at hi
    omega
  · exact kindOf_code c (by omega) h9 r
/-- A command's bytes, whatever stands behind, are that command. -/
theorem dec_code {c : Cm} (h : mayC c = true) (r : List UInt8) : dec (codeC c ++ r) = { c with fr := 0, to := (codeC c).length } ∧ dlen (codeC c ++ r) = (codeC c).length := by
  obtain ⟨h1, h9, hi, hr⟩ := mayC_kind h
  have hk := mayC_first h r
  have hl := codeC_length c
  have hn : ¬ (codeC c ++ r).length < sizeOf' c.kind := by rw [List.length_append]; omega
  unfold dec dlen
  rw [hk, if_neg hn, if_neg hn, readC_append _ _ _ (by omega), hr, inB_bare, if_pos hi, hl]
  exact ⟨rfl, rfl⟩
theorem kindOf_low {n : Int} (h : n < 128) : kindOf n = 1 := if_pos h
theorem kindOf_zero {n : Int} (h : kindOf n = 0) : 135 < n := by
  unfold kindOf at h
  repeat' split at h
  all_goals omega
theorem kindOf_bd {n : Int} (h : kindOf n ≠ 0) : 1 ≤ kindOf n ∧ kindOf n ≤ 9 := by
  unfold kindOf at h ⊢
  repeat' split
  all_goals first | omega | simp_all
theorem bare_kind (c : Cm) : c.bare.kind = c.kind := rfl
theorem till_kind (c : Cm) (n : Int) : (c.till n).kind = c.kind := rfl
theorem till_inB (c : Cm) (n : Int) : inB (c.till n) = inB c := rfl
theorem till_code (c : Cm) (n : Int) : codeC (c.till n) = codeC c := rfl
theorem till_bare (c : Cm) (n : Int) : (c.till n).bare = c.bare := rfl
theorem size_one : sizeOf' 1 = 1 := rfl
theorem size_zero : sizeOf' 0 = 1 := rfl
theorem dec_none_kind (b : List UInt8) (h : (dec b).kind = 0) (hne : b ≠ []) : dec b = noneC (dlen b : Int) ∧ 128 ≤ byt b 0 := by
  have hb := byt_bd b 0
  have hp := List.length_pos_iff.2 hne
  by_cases hs : b.length < sizeOf' (kindOf (byt b 0))
  · refine ⟨by unfold dec dlen; rw [if_pos hs, if_pos hs], ?_⟩
    by_cases hlt : byt b 0 < 128
    · rw [kindOf_low hlt, size_one] at hs
      omega
    · omega
  · by_cases hi : inB (readC (kindOf (byt b 0)) b) = true
    · have hd : dec b = (readC (kindOf (byt b 0)) b).till (sizeOf' (kindOf (byt b 0))) := by unfold dec; rw [if_neg hs, if_pos hi]
      have hk' : (dec b).kind = kindOf (byt b 0) := by rw [hd, till_kind, readC_kind]
      have hk : kindOf (byt b 0) = 0 := hk'.symm.trans h
      have hz := kindOf_zero hk
      refine ⟨?_, by omega⟩
      rw [hd]
      unfold dlen
      rw [if_neg hs, hk]
      rfl
    · refine ⟨by unfold dec dlen; rw [if_neg hs, if_neg hs, if_neg hi], ?_⟩
      by_cases hlt : byt b 0 < 128
      · exfalso
        apply hi
        rw [kindOf_low hlt]
        simp [readC, inB]
        omega
      · omega
theorem getD_take (b : List UInt8) (n : Nat) (h : n ≤ b.length) : b.take n = (List.range n).map fun i => b.getD i 0 := by
  refine List.ext_getElem (by simp; omega) fun i h1 h2 => ?_
  simp at h1
  rw [List.getElem_take]
  simp [List.getD_eq_getElem?_getD, List.getElem?_eq_getElem (show i < b.length by omega)]
theorem lo_byt (b : List UInt8) (i : Nat) : lo (byt b i) = b.getD i 0 := lo_of _
theorem lo_first {b : List UInt8} {k : Int} (h : kindOf (byt b 0) = k) (h2 : 2 ≤ k) : lo (k + 126) = b.getD 0 0 := by
  have hn : byt b 0 = k + 126 := by
    unfold kindOf at h
    repeat' split at h
    all_goals omega
  rw [← hn, lo_byt]
/-- A command that its bytes say may be, and has those bytes. -/
theorem dec_may (b : List UInt8) (h : (dec b).kind ≠ 0) : mayC (dec b) = true ∧ codeC (dec b) = b.take (dlen b) := by
  by_cases hs : b.length < sizeOf' (kindOf (byt b 0))
  · exact absurd (by unfold dec; rw [if_pos hs]; rfl) h
  · by_cases hi : inB (readC (kindOf (byt b 0)) b) = true
    · have hd : dec b = (readC (kindOf (byt b 0)) b).till (sizeOf' (kindOf (byt b 0))) := by unfold dec; rw [if_neg hs, if_pos hi]
      have hl : dlen b = sizeOf' (kindOf (byt b 0)) := by unfold dlen; rw [if_neg hs]
      have hkk : (dec b).kind = kindOf (byt b 0) := by rw [hd, till_kind, readC_kind]
      rw [hkk] at h
      have hbd := kindOf_bd h
      have hcode : codeC (dec b) = codeC (readC (kindOf (byt b 0)) b) := by rw [hd, till_code]
      have hc : codeC (dec b) = b.take (dlen b) := by
        rw [hcode, hl, getD_take b _ (by omega)]
        generalize hk : kindOf (byt b 0) = k at *
        rcases kind_cases hbd.1 hbd.2 with rfl | rfl | rfl | rfl | rfl | rfl | rfl | rfl | rfl
        · simp [codeC, readC, sizeOf', lo_byt, List.range, List.range.loop]
        · simpa [codeC, readC, bareC, sizeOf', List.range, List.range.loop] using lo_first hk (by omega)
        · simpa [codeC, readC, sizeOf', lo_byt, List.range, List.range.loop] using lo_first hk (by omega)
        · simpa [codeC, readC, sizeOf', lo_byt, List.range, List.range.loop] using lo_first hk (by omega)
        · simpa [codeC, readC, sizeOf', lo_byt, List.range, List.range.loop] using lo_first hk (by omega)
        · simpa [codeC, readC, sizeOf', lo_byt, List.range, List.range.loop] using lo_first hk (by omega)
        · simpa [codeC, readC, bareC, sizeOf', List.range, List.range.loop] using lo_first hk (by omega)
        · simpa [codeC, readC, bareC, sizeOf', List.range, List.range.loop] using lo_first hk (by omega)
        · simpa [codeC, readC, sizeOf', lo_byt, List.range, List.range.loop] using lo_first hk (by omega)
      refine ⟨?_, hc⟩
      have hib : inB (dec b) = true := by rw [hd, till_inB]; exact hi
      have hrd : readC (dec b).kind (codeC (dec b)) = (dec b).bare := by
        rw [hkk, hc, hl]
        have hap := readC_append (kindOf (byt b 0)) (b.take (sizeOf' (kindOf (byt b 0)))) (b.drop (sizeOf' (kindOf (byt b 0)))) (by rw [List.length_take]; omega)
        rw [List.take_append_drop] at hap
        rw [← hap]
        rw [hd, till_bare, readC_bare]
      simp only [mayC, Bool.and_eq_true, decide_eq_true_eq]
      exact ⟨⟨by rw [hkk]; exact hbd, hib⟩, hrd⟩
    · exact absurd (by unfold dec; rw [if_neg hs, if_neg hi]; rfl) h
/-- The document's May: it is what its bytes say. -/
theorem mayC_doc (c : Cm) (h1 : 1 ≤ c.kind) (h9 : c.kind ≤ 9) : mayC c = decide ((dec (codeC c)).bare = c.bare) := by
  rw [Bool.eq_iff_iff, decide_eq_true_eq]
  constructor
  · intro h
    have hd := (dec_code h []).1
    rw [List.append_nil] at hd
    have e : (dec (codeC c)).bare = ({ c with fr := 0, to := ((codeC c).length : Int) } : Cm).bare := by rw [hd]
    exact e
  · intro h
    have hk : (dec (codeC c)).bare.kind = c.bare.kind := by rw [h]
    rw [bare_kind, bare_kind] at hk
    have hm := (dec_may (codeC c) (by omega)).1
    rw [← mayC_bare, h, mayC_bare] at hm
    exact hm
end Go.Proofs.YtlgfdemggkiojaaDoor
