/-
  Package snaps: how a taker lies, and that a step of it is the plain one's; condition: taker and memory lie as they say.
-/
import Derived.Test.YtapcgikamldchaaDoorSK1
namespace Go.Proofs.YtapcgikamldchaaDoor
open Go.RowKit Go.Maps

/-- All sixteen threads' words: those that are read, and zeros. -/
def rowsS (l : List TH) : List TH := l ++ List.replicate (16 - l.length) TH.zero
def fnS (s : SG) : Value := if s.ln = 0 then .nilFunc else if s.ln = 1 then mvV 27 0 0 else if s.fd = 0 then mvV 45 (s.at : Int) 0 else mvV 55 (s.at : Int) (s.fd : Int)
/-- The program's taker: one block. -/
structure TRep (q : Nat) (fp : List Nat) (s : SG) (w : World) : Prop where
  foot : fp = [q]
  blk : Bq q 59 (TKc (fnS s) (s.bl * 4) (rowsS s.l)) w
/-- What is told of it. -/
def gotL (s : SG) : List TH := if s.ln = 0 then s.l else []
def voidS : SG := ⟨0, [], 0, 0⟩
section
variable {p m q k n C : Nat} {fp : List Nat} {M : MV} {s : SG} {w w' : World} {l r : List TH} {t : TH} {v : Int} {fd : Nat}
theorem rows_len (h : l.length ≤ 16) : (rowsS l).length = 16 := by
  unfold rowsS
  rw [List.length_append, List.length_replicate]
  omega
theorem rows_split (h : l.length < 16) : rowsS l = l ++ TH.zero :: List.replicate (15 - l.length) TH.zero := by
  unfold rowsS
  rw [show 16 - l.length = (15 - l.length) + 1 by omega, List.replicate_succ]
theorem rows_more {x : TH} (h : l.length < 16) : rowsS (l ++ [x]) = l ++ x :: List.replicate (15 - l.length) TH.zero := by
  unfold rowsS
  rw [List.length_append, List.length_singleton, show 16 - (l.length + 1) = 15 - l.length by omega, List.append_assoc]
  rfl
theorem mid_get {x : TH} {z : List TH} : (l ++ x :: z).getD l.length TH.zero = x := by
  rw [List.getD_eq_getElem?_getD, List.getElem?_append_right (Nat.le_refl _), Nat.sub_self]
  rfl
theorem mid_set {x y : TH} {z : List TH} : (l ++ x :: z).set l.length y = l ++ y :: z := by
  rw [List.set_append_right _ _ (Nat.le_refl _), Nat.sub_self]
  rfl
theorem rows_first (h : l.length < 16) : (rowsS l).set l.length (((rowsS l).getD l.length TH.zero).set 0 v) = rowsS (l ++ [TH.zero.set 0 v]) := by
  rw [rows_split h, rows_more h, mid_get, mid_set]
theorem rows_next (h : r.length < 16) : (rowsS (r ++ [t])).set r.length (((rowsS (r ++ [t])).getD r.length TH.zero).set fd v) = rowsS (r ++ [t.set fd v]) := by
  rw [rows_more h, rows_more h, mid_get, mid_set]
theorem TRep.mem (h : TRep q fp s w) : q ∈ fp := by rw [h.foot]; simp
theorem TRep.own (h : TRep q fp s w) : ∀ y ∈ fp, ∃ t cs, Bq y t cs w ∧ okT t = true := fun y hy => by
  rw [h.foot] at hy
  obtain rfl := List.mem_singleton.1 hy
  exact ⟨_, _, h.blk, by decide⟩
theorem TRep.same (h : TRep q fp s w) (hs : ∀ y ∈ fp, w'.heap[y]? = w.heap[y]?) : TRep q fp s w' := ⟨h.foot, h.blk.same (hs q h.mem)⟩
theorem fnS_ov (s : SG) : OvV (fnS s) := by
  unfold fnS
  split
  · exact .inl rfl
  · split
    · exact .inr ⟨_, _, _, rfl⟩
    · split
      · exact .inr ⟨_, _, _, rfl⟩
      · exact .inr ⟨_, _, _, rfl⟩
theorem fnS_b (s : SG) : ovB (fnS s) = decide (s.ln = 0) := by
  unfold fnS
  split
  · rename_i h; rw [decide_eq_true h]; rfl
  · rename_i h
    rw [decide_eq_false h]
    split
    · rfl
    · split <;> rfl
theorem fn_first {bl : Int} {k : Int} (hk : k = 2) : fnS ⟨k, l, bl, 0⟩ = mvV 45 (l.length : Int) 0 := by
  subst hk
  have ha : (⟨2, l, bl, 0⟩ : SG).at = l.length := by unfold SG.at SG.row; simp
  unfold fnS
  rw [ha]
  rfl
theorem fn_next {bl : Int} (h : fd ≠ 0) : fnS ⟨2, r ++ [t], bl, fd⟩ = mvV 55 (r.length : Int) (fd : Int) := by
  have ha : (⟨2, r ++ [t], bl, fd⟩ : SG).at = r.length := by unfold SG.at SG.row; simp [h]
  unfold fnS
  rw [ha]
  simp [h]
theorem fn_end {bl : Int} (h : (l.length : Int) ≤ 4 * bl) : fnS ⟨if (l.length : Int) = 4 * bl then 0 else 2, l, bl, 0⟩ = bgV (l.length : Int) 0 (bl * 4) := by
  by_cases e : (l.length : Int) = 4 * bl
  · rw [if_pos e, show bgV (l.length : Int) 0 (bl * 4) = .nilFunc from if_neg (by omega)]
    rfl
  · rw [if_neg e, fn_first rfl, show bgV (l.length : Int) 0 (bl * 4) = mvV 45 (l.length : Int) 0 from if_pos (by omega)]
/-- A step's end. -/
theorem fin_all {f : Value} {N : Int} {g : List TH} {M' : MV} {s' : SG} (hf : fnS s' = f) (hn : s'.bl * 4 = N) (hg : rowsS s'.l = g) (h : TkP q p m f N g M' w w') :
    ∃ f' cs', OvV f' ∧ Bq q 59 (f' :: cs') w' ∧ (Ending.returned (.bool (ovB f')) = .returned (.bool (decide (s'.ln = 0))) ∧ ∃ fp', (∀ x ∈ fp', x ∈ [q] ∨ w.heap.size ≤ x) ∧ TRep q fp' s' w' ∧ VX p m M' w' ∧ Onl p m [q] w w') := by
  subst hf hn hg
  exact ⟨fnS s', _, fnS_ov s', h.1, by rw [fnS_b], [q], fun x hx => .inl hx, ⟨rfl, h.1⟩, h.2.1, h.2.2⟩
theorem stepT_all (hE : ∀ y ∈ fp, 0 < y) (F : VX p m M w) (hs : M.s.st < 1000000) (I : InvS k s) (Q : TRep q fp s w) : Calls Tryd.prog 15 #[.pointer (some ⟨q, 0, none⟩), .pointer (some ⟨p, 0, none⟩)] w fun e w' => e = .returned (.bool (decide ((stepS M.V s).ln = 0))) ∧ ∃ fp', (∀ x ∈ fp', x ∈ fp ∨ w.heap.size ≤ x) ∧ TRep q fp' (stepS M.V s) w' ∧ VX p m (memT M s) w' ∧ Onl p m fp w w' := by
  have hq : 0 < q := hE q Q.mem
  obtain ⟨rfl, B⟩ := Q
  have hlen := I.len
  cases I with
  | new =>
    have hv := (F.u64 adN).1
    have e1 : stepS M.V SG.new = oneS (M.V adN) := by simp [stepS, SG.new]
    have e2 : memT M SG.new = ldM M adN := by simp [memT, SG.new]
    rw [e1, e2]
    refine stepF (.inl rfl) B ((blocksF rfl rfl hv hq F hs B).mono ?_)
    rintro e w' ⟨rfl, h⟩
    refine ⟨rfl, ?_⟩
    unfold oneS
    generalize M.V adN = v at *
    split
    · rename_i h0
      rw [h0] at h
      exact fin_all (s' := ⟨0, [], 0, 0⟩) rfl rfl rfl h
    · rename_i h0
      refine fin_all (s' := ⟨2, [], min v 4, 0⟩) ?_ rfl rfl h
      rw [fn_first rfl, show bgV 0 0 (min v 4 * 4) = mvV 45 0 0 from if_pos (by omega)]
      rfl
  | @first k l bl h1 h4 hl hk hz =>
    have e2 : memT M ⟨2, l, bl, 0⟩ = ldM M (adT (l.length : Int) 0) := by
      unfold memT
      rw [if_neg (show ¬ (2 : Int) = 0 by decide), if_neg (show ¬ (2 : Int) = 1 by decide), ad_first]
    rw [step_first, ad_first, e2]
    have hl16 : l.length < 16 := by omega
    have B' : Bq q 59 (TKc (mvV 45 (l.length : Int) 0) (bl * 4) (rowsS l)) w := by
      rw [← fn_first (bl := bl) rfl]
      exact B
    refine stepF (.inr (.inl rfl)) B' ((ownerF hl16 (rows_len hlen) rfl hq F hs B').mono ?_)
    rintro e w' ⟨rfl, h⟩
    refine ⟨rfl, ?_⟩
    rw [rows_first hl16] at h
    generalize M.V (adT (l.length : Int) 0) = v at *
    by_cases h0 : v = 0
    · subst h0
      rw [two_zero]
      have hc : ((l ++ [TH.zero]).length : Int) = (l.length : Int) + 1 := by simp
      refine fin_all ?_ rfl rfl h
      have h9 := fn_end (l := l ++ [TH.zero]) (bl := bl) (by rw [hc]; omega)
      rw [hc] at h9
      rw [h9]
      exact (if_pos rfl).symm
    · rw [two_one h0]
      refine fin_all ?_ rfl rfl h
      rw [fn_next (by decide)]
      exact (if_neg h0).symm
  | @next k fd r t bl h1 h4 hl h0 h9 ho hk hz ht =>
    have e2 : memT M ⟨2, r ++ [t], bl, fd⟩ = ldM M (adT (r.length : Int) (fd : Int)) := by
      unfold memT
      rw [if_neg (show ¬ (2 : Int) = 0 by decide), if_neg (show ¬ (2 : Int) = 1 by decide), ad_next h0]
    rw [step_first, ad_next h0, e2]
    have hr16 : r.length < 16 := by omega
    have B' : Bq q 59 (TKc (mvV 55 (r.length : Int) (fd : Int)) (bl * 4) (rowsS (r ++ [t]))) w := by
      rw [← fn_next (bl := bl) (t := t) (by omega)]
      exact B
    refine stepF (.inr (.inr rfl)) B' ((otherF hr16 h9 (rows_len hlen) rfl hq F hs B').mono ?_)
    rintro e w' ⟨rfl, h⟩
    refine ⟨rfl, ?_⟩
    rw [rows_next hr16] at h
    generalize M.V (adT (r.length : Int) (fd : Int)) = v at *
    by_cases e9 : fd = 9
    · subst e9
      rw [two_last ho]
      have hc : ((r ++ [t.set 9 v]).length : Int) = (r.length : Int) + 1 := by simp
      refine fin_all ?_ rfl rfl h
      have h9 := fn_end (l := r ++ [t.set 9 v]) (bl := bl) (by rw [hc]; omega)
      rw [hc] at h9
      rw [h9]
      exact (if_pos rfl).symm
    · rw [two_more h0 (by omega) ho]
      refine fin_all ?_ rfl rfl h
      rw [fn_next (by omega)]
      exact (if_neg (by omega)).symm
  | @over k l bl h1 h4 hl hk hz =>
    have e1 : stepS M.V ⟨0, l, bl, 0⟩ = ⟨0, l, bl, 0⟩ := by simp [stepS]
    have e2 : memT M ⟨0, l, bl, 0⟩ = M := by simp [memT]
    rw [e1, e2]
    refine (stepF_0 (v := .pointer (some ⟨p, 0, none⟩)) B).mono ?_
    rintro e w' ⟨rfl, rfl⟩
    exact ⟨rfl, [q], fun x hx => .inl hx, ⟨rfl, B⟩, F, .refl _⟩
theorem newT_all (w : World) : Calls Tryd.prog 9 #[] w fun e w' => ∃ q fp, e = .returned (.pointer (some ⟨q, 0, none⟩)) ∧ TRep q fp SG.new w' ∧ (∀ x ∈ fp, w.heap.size ≤ x) ∧ Below w.heap.size w w' := by
  refine (newF w).mono ?_
  rintro e w' ⟨rfl, h, hb⟩
  exact ⟨_, [w.heap.size], rfl, ⟨rfl, h⟩, fun x hx => by rw [List.mem_singleton.1 hx]; exact Nat.le_refl _, hb⟩
theorem overT_all (Q : TRep q fp s w) : Calls Tryd.prog 16 #[.pointer (some ⟨q, 0, none⟩)] w fun e w' => e = .returned (.bool (decide (s.ln = 0))) ∧ Below w.heap.size w w' := by
  refine (overF (fnS_ov s) Q.blk).mono ?_
  rintro e w' ⟨rfl, rfl⟩
  exact ⟨by rw [fnS_b], Below.refl _ _⟩
theorem stepT_nil (v : Value) (w : World) : Calls Tryd.prog 15 #[.pointer none, v] w fun e w' => e = .returned (.bool true) ∧ Below w.heap.size w w' := by
  refine (stepF_nil v w).mono ?_
  rintro e w' ⟨rfl, rfl⟩
  exact ⟨rfl, Below.refl _ _⟩
theorem overT_nil (w : World) : Calls Tryd.prog 16 #[.pointer none] w fun e w' => e = .returned (.bool true) ∧ Below w.heap.size w w' := by
  refine (overF_nil w).mono ?_
  rintro e w' ⟨rfl, rfl⟩
  exact ⟨rfl, Below.refl _ _⟩
/-- One that no call made. -/
def ZT : List Value := TKc .nilFunc 0 (List.replicate 16 TH.zero)
theorem zeroT (h : Bq q 59 ZT w) : TRep q [q] voidS w := ⟨rfl, h⟩
end
end Go.Proofs.YtapcgikamldchaaDoor
