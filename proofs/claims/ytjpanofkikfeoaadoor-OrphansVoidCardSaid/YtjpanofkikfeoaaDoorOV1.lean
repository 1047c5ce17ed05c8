/-
  Operations that do nothing, in a row of the law's own; lists that may not be given; condition: all lies as it says.
-/
import Derived.Test.YtjpanofkikfeoaaDoorOL1
import Derived.Test.YtjpanofkikfeoaaDoorLOrder
namespace Go.Proofs.YtjpanofkikfeoaaDoor
open Go.RowKit Go.Maps

theorem own_new (w : World) (B : Nat) (t : TypeId) (vs : List Value) (hB : B ≤ w.heap.size) {n : Nat} (hn : vs.length = n) (hm : n ≤ maxLen) : (w.alloc (.cells vs.toArray t)).ownsRow B t 1 (.slice (some ⟨w.heap.size, 0, none⟩) n n) n vs := by
  subst hn
  refine ⟨by omega, .inr ⟨_, _, vs.toArray, rfl, hB, alloc_blk _ _, Nat.le_refl _, hm, by simp, by simp⟩⟩
theorem flatE_set : ∀ (xs : List EP) (i j : Nat) (v : Value) (e' : EP), i < xs.length → j < 6 → e'.cells = (xs.getD i EP.zero).cells.set j v → flatE (xs.set i e') = (flatE xs).set (i * 6 + j) v
  | [], _, _, _, _, h, _, _ => by simp at h
  | x :: r, 0, j, v, e', _, hj, he => by
      rw [List.getD_cons_zero] at he
      show e'.cells ++ flatE r = (x.cells ++ flatE r).set (0 * 6 + j) v
      rw [List.set_append_left _ _ (by rw [EP.cells_len]; omega), he, Nat.zero_mul, Nat.zero_add]
  | x :: r, i + 1, j, v, e', h, hj, he => by
      rw [List.getD_cons_succ] at he
      have := flatE_set r i j v e' (by simpa using h) hj he
      show x.cells ++ flatE (r.set i e') = (x.cells ++ flatE r).set ((i + 1) * 6 + j) v
      rw [List.set_append_right _ _ (by rw [EP.cells_len]; omega), this, EP.cells_len]
      congr 2
      omega
theorem take_set_lt (l : List Value) (m k : Nat) (v : Value) : (l.set k v).take m = (l.take m).set k v := by
  rw [List.take_set]
section
variable {w w' : World} {B : Nat}
theorem OwnE.setc {g n c i j : Nat} {v : Value} {e' : EP} {xs : List EP} (h : OwnE w B (.slice (some ⟨g, 0, none⟩) n c) xs) (hi : i < xs.length) (hj : j < 6) (he : e'.cells = (xs.getD i EP.zero).cells.set j v) : OwnE (w.setCell ⟨g, i * 6 + j, none⟩ v) B (.slice (some ⟨g, 0, none⟩) n c) (xs.set i e') := by
  obtain ⟨h1, h⟩ := h
  refine ⟨by rw [flatE_len], ?_⟩
  rcases h with ⟨e, _⟩ | ⟨g', cap, cur, e, hb, hg, hc, hm, hs, ht⟩
  · cases e
  · injection e with e1 e2 e3
    injection e1 with e1
    injection e1 with e4
    subst e4 e2 e3
    refine .inr ⟨g, c, cur.setIfInBounds (i * 6 + j) v, by simp, hb, setCell_blk hg _ _, by simpa using hc, hm, by simpa using hs, ?_⟩
    rw [List.length_set, flatE_set xs i j v e' hi hj he, ← ht]
    simp [List.take_set]
theorem OwnE.freeC {g n c : Nat} {xs : List EP} (h : OwnE w B (.slice (some ⟨g, 0, none⟩) n c) xs) (k : Nat) : w.frozen? ⟨g, k, none⟩ = false := by
  obtain ⟨_, cs, kk⟩ := h.bq rfl
  exact kk.free k
/-- Lists that may not be given. -/
theorem bad_dup {es : List EP} {i : Nat} (hi : i < es.length) : ¬ mayE (es ++ [es.getD i EP.zero]) := fun h => by
  have h3 := h.2.2
  rw [List.map_append, List.nodup_append] at h3
  refine h3.2.2 (es.getD i EP.zero).s (List.mem_map.2 ⟨_, ?_, rfl⟩) _ (by simp) rfl
  rw [List.getD_eq_getElem?_getD, List.getElem?_eq_getElem hi]
  exact List.getElem_mem hi
theorem bad_mark {es : List EP} {i : Nat} {e' : EP} (hi : i < es.length) (hk : e'.k = true) : ¬ mayE (es.set i e') := fun h => by
  have := (h.2.1 e' (List.mem_set hi e')).2.2
  rw [hk] at this
  cases this
theorem bad_slot {es : List EP} {i : Nat} {e' : EP} (hi : i < es.length) (hk : e'.s = 256) : ¬ mayE (es.set i e') := fun h => by
  have := (h.2.1 e' (List.mem_set hi e')).2.1
  omega
theorem ok_set {es : List EP} {i : Nat} {e' : EP} (h : ∀ e ∈ es, EP.ok e) (h' : e'.ok) : ∀ e ∈ es.set i e', EP.ok e := fun e he => by
  rcases List.mem_or_eq_of_mem_set he with k | k
  · exact h e k
  · exact k ▸ h'
theorem low_see {W : World} {v : Value} {xs : List EP} (hb : Below W.heap.size W w) (h : SeeE W v xs) : SeeE w v xs := h.below hb
theorem see_nil (w : World) : SeeE w (.slice none 0 0) [] := .inl ⟨rfl, rfl⟩
theorem bad_nil : ¬ mayE [] := fun h => h.1 rfl
theorem SeeE.reads {g off n c : Nat} {xs : List EP} (h : SeeE w (.slice (some ⟨g, off, none⟩) n c) xs) : ∀ j u, (flatE xs)[j]? = some u → w.cell? ((⟨g, off, none⟩ : Addr).add j) = some u := by
  rcases h with ⟨e, _⟩ | ⟨g', off', c', e, _, _, hr⟩
  · cases e
  · injection e with e1 e2 e3
    injection e1 with e1
    injection e1 with e4 e5 e6
    subst e4 e5
    intro j u hj
    have h9 := hr j u hj
    by_cases h0 : j = 0
    · subst h0
      simpa [Addr.add] using h9
    · simpa [Addr.add, h0] using h9
/-- A copy of a list, in new memory. -/
theorem own_copy {B n : Nat} {v' : Value} {xs : List EP} (hn : xs.length = n) (h : w'.ownsRow B 48 6 v' (0 + n) ([] ++ flatE xs)) (h0 : 0 < n) : ∃ g c, v' = .slice (some ⟨g, 0, none⟩) n c ∧ OwnE w' B (.slice (some ⟨g, 0, none⟩) n c) xs := by
  subst hn
  rw [Nat.zero_add, List.nil_append] at h
  obtain ⟨g, c, rfl⟩ := ownsRow_pos h h0
  exact ⟨g, c, rfl, h⟩
theorem own_add {B n : Nat} {v' : Value} {xs : List EP} {e : EP} (hn : xs.length = n) (h : w'.ownsRow B 48 6 v' (n + 1) (flatE xs ++ e.cells)) : ∃ g c, v' = .slice (some ⟨g, 0, none⟩) (n + 1) c ∧ OwnE w' B (.slice (some ⟨g, 0, none⟩) (n + 1) c) (xs ++ [e]) := by
  subst hn
  obtain ⟨g, c, rfl⟩ := ownsRow_pos h (by omega)
  refine ⟨g, c, rfl, ?_⟩
  unfold OwnE
  rw [flatE_app, List.length_append]
  simpa [flatE] using h
theorem OwnE.cnt {B n : Nat} {v : Value} {xs : List EP} (h : OwnE w B v xs) (hn : xs.length = n) : w.ownsRow B 48 6 v n (flatE xs) := by
  subst hn
  exact h
theorem grown_below (h : w.grownBy w' none) : Below w.heap.size w w' := (Below.refl _ w).grown h (Nat.le_refl _) fun _ e => by cases e
theorem own_grown {w0 : World} {B : Nat} {v : Value} {xs : List EP} (h : OwnE w B v xs) (low : Below w0.heap.size w0 w) (hB : w0.heap.size ≤ B) (hg : w.grownBy w' v.ownBlock) : Below w0.heap.size w0 w' :=
  low.grown hg low.size fun _ hq => Nat.le_trans hB (h.bq hq).1
theorem bq_reads {q : Nat} {t : TypeId} {cs : List Value} (k : Bq q t cs w) : ∀ j u, cs[j]? = some u → w.cell? ((⟨q, 0, none⟩ : Addr).add j) = some u := by
  intro j u hj
  have h9 := k.cell j
  by_cases h0 : j = 0
  · subst h0
    simpa [Addr.add] using h9.trans hj
  · simpa [Addr.add, h0] using h9.trans hj
theorem setc_below {w0 : World} {g k : Nat} {v : Value} (low : Below w0.heap.size w0 w) (hg : w0.heap.size ≤ g) : Below w0.heap.size w0 (w.setCell ⟨g, k, none⟩ v) := low.setCell (p := ⟨g, k, none⟩) hg v
/-- An operation that does nothing, or none. -/
def VO (x : Option Nat) (w : World) : Prop := ∀ q, x = some q → ∃ fp g, ¬ mayE g ∧ PRepO false q fp (newG g) w
def pG : Option Nat → Value
  | none => .pointer none
  | some q => .pointer (some ⟨q, 0, none⟩)
theorem PRepO.below {kd : Bool} {q : Nat} {fp : List Nat} {o : OG} (h : PRepO kd q fp o w) (hb : Below w.heap.size w w') : PRepO kd q fp o w' := h.same fun y hy => by
  obtain ⟨t, cs, k, _⟩ := h.own y hy
  exact hb.block y k.lt
theorem VO.below {x : Option Nat} (h : VO x w) (hb : Below w.heap.size w w') : VO x w' := fun q hq => by
  obtain ⟨fp, g, h1, h2⟩ := h q hq
  exact ⟨fp, g, h1, h2.below hb⟩
def o0T : OG := ⟨0, [], [], 0, 0, 0, EP.zero⟩
theorem o0T_ok : ONum o0T := ⟨u64_0', by simp [o0T], EP.zero_ok, by simp [o0T], fun h => absurd rfl h, fun _ => ⟨rfl, by simp [o0T], fun h => by simp [o0T] at h, fun h => by simp [o0T] at h, fun _ => rfl, fun h => by simp [o0T] at h⟩⟩
/-- What stands while the row grows. -/
structure VdS (w1 : World) (zT : Nat) (qs : List (Option Nat)) (v : Value) (w : World) : Prop where
  low : Below w1.heap.size w1 w
  z : PRepO true zT [zT] o0T w
  row : w.ownsRow w1.heap.size 40 1 v qs.length (qs.map pG)
  all : ∀ x ∈ qs, VO x w
variable {w1 : World} {zT : Nat} {qs : List (Option Nat)} {v v' : Value}
theorem row_below {t : TypeId} {B n : Nat} {xs : List Value} (h : w.ownsRow B t 1 v n xs) (hb : Below w.heap.size w w') : w'.ownsRow B t 1 v n xs := by
  obtain ⟨h1, h⟩ := h
  refine ⟨h1, ?_⟩
  rcases h with h | ⟨g, cap, cur, e, hB, hg, rest⟩
  · exact .inl h
  · exact .inr ⟨g, cap, cur, e, hB, (hb.block g (Array.getElem?_eq_some_iff.1 hg).1).trans hg, rest⟩
theorem VdS.below (h : VdS w1 zT qs v w) (hb : Below w.heap.size w w') : VdS w1 zT qs v w' := ⟨h.low.trans (hb.mono h.low.size), h.z.below hb, row_below h.row hb, fun x hx => (h.all x hx).below hb⟩
/-- Three more. -/
theorem VdS.push {a b c : Nat} (h : VdS w1 zT qs v w) (ha : VO (some a) w) (hb : VO (some b) w) (hc : VO (some c) w) (hr : w'.ownsRow w1.heap.size 40 1 v' (qs.length + 3) (qs.map pG ++ [pG (some a), pG (some b), pG (some c)])) (hg : w.grownBy w' v.ownBlock) : VdS w1 zT (qs ++ [some a, some b, some c]) v' w' := by
  have hrow : ∀ g, v.ownBlock = some g → w1.heap.size ≤ g ∧ ∃ cs, Bq g 40 cs w := fun g hg => by
    rcases h.row.2 with ⟨rfl, _⟩ | ⟨g', cap, cur, rfl, hB, hh, _⟩
    · cases hg
    · obtain rfl : g' = g := by simpa [Value.ownBlock] using hg
      exact ⟨hB, cur.toList, by unfold Bq; simpa using hh⟩
  have hsame : ∀ {kd q fp o}, PRepO kd q fp o w → PRepO kd q fp o w' := fun {kd q fp o} R => R.same fun y hy => by
    obtain ⟨t, cs, k, hk⟩ := R.own y hy
    refine hg.block y k.lt fun e => ?_
    obtain ⟨_, ds, k2⟩ := hrow y e.symm
    refine k.ne k2 (fun e => ?_) rfl
    rw [e] at hk
    revert hk
    decide
  have hvo : ∀ x, VO x w → VO x w' := fun x hx q hq => by
    obtain ⟨fp, g, h1, h2⟩ := hx q hq
    exact ⟨fp, g, h1, hsame h2⟩
  refine ⟨h.low.grown hg h.low.size fun q hq => (hrow q hq).1, hsame h.z, ?_, fun x hx => ?_⟩
  · simpa using hr
  · simp only [List.mem_append, List.mem_cons, List.not_mem_nil, or_false] at hx
    rcases hx with hx | rfl | rfl | rfl
    · exact hvo x (h.all x hx)
    · exact hvo _ ha
    · exact hvo _ hb
    · exact hvo _ hc
theorem VO.new {A : Option Addr} {n c : Nat} {g : List EP} (h : SeeE w (.slice A n c) g) (hok : ∀ e ∈ g, e.ok) (hl : g.length < 100000) (hm : ¬ mayE g) :
    Calls Tryd.prog 24 #[.slice A n c] w fun e w' => ∃ q, e = .returned (.pointer (some ⟨q, 0, none⟩)) ∧ VO (some q) w' ∧ Below w.heap.size w w' := by
  refine (newGive_all h hok hl).mono ?_
  rintro e w' ⟨q, fp, rfl, _, R, hb⟩
  exact ⟨q, rfl, fun q' hq => by injection hq with hq; subst hq; exact ⟨fp, g, hm, R⟩, hb⟩
theorem VO.step {x : Option Nat} (h : VO x w) (a : Value) : Calls Tryd.prog 25 #[pG x, a] w fun e w' => e = .returned (.bool true) ∧ Below w.heap.size w w' := by
  cases x with
  | none => exact stepO_nil false a w
  | some q =>
    obtain ⟨fp, g, hm, R⟩ := h q rfl
    exact stepO_over false R (by simp [newG, hm]) a
theorem VO.over {x : Option Nat} (h : VO x w) : Calls Tryd.prog 26 #[pG x] w fun e w' => e = .returned (.bool true) ∧ Below w.heap.size w w' := by
  cases x with
  | none => exact overG_nil w
  | some q =>
    obtain ⟨fp, g, hm, R⟩ := h q rfl
    refine (overG_all (ONum.newG g) R).mono ?_
    rintro e w' ⟨rfl, rfl⟩
    exact ⟨by simp [newG, hm], Below.refl _ _⟩
theorem VdS.at_ {g nq c : Nat} (h : VdS w1 zT qs (.slice (some ⟨g, 0, none⟩) nq c) w) {j : Nat} (hj : j < qs.length) : w.cell? ⟨g, j, none⟩ = some (pG (qs.getD j none)) := by
  rcases h.row.2 with ⟨e, _⟩ | ⟨g', cap, cur, e, _, hg, hc, hm, hs, ht⟩
  · cases e
  · injection e with e1 e2 e3
    injection e1 with e1
    injection e1 with e4
    subst e4
    have h1 : (qs.map pG)[j]? = some (pG (qs.getD j none)) := by
      rw [List.getElem?_map, List.getD_eq_getElem?_getD, List.getElem?_eq_getElem hj]; rfl
    rw [← ht, List.getElem?_take, if_pos (by omega)] at h1
    rw [cell_of_row w g j cur _ (0, 0) hg]
    simpa using h1
theorem VdS.vo (h : VdS w1 zT qs v w) {j : Nat} (hj : j < qs.length) : VO (qs.getD j none) w := by
  refine h.all _ ?_
  rw [List.getD_eq_getElem?_getD, List.getElem?_eq_getElem hj]
  exact List.getElem_mem hj
theorem takeStep_nil (a : Value) (w : World) : Calls Tryd.prog 19 #[.pointer none, a] w fun e w' => e = .returned (.bool true) ∧ Below w.heap.size w w' := stepO_nil true a w
theorem VdS.stepT (h : VdS w1 zT qs v w) (a : Value) : Calls Tryd.prog 19 #[.pointer (some ⟨zT, 0, none⟩), a] w fun e w' => e = .returned (.bool true) ∧ VdS w1 zT qs v w' := by
  refine Calls.mono (stepO_over true h.z rfl a) ?_
  rintro e w' ⟨rfl, hb⟩
  exact ⟨rfl, h.below hb⟩
theorem VdS.overT (h : VdS w1 zT qs v w) : Calls Tryd.prog 14 #[.pointer (some ⟨zT, 0, none⟩)] w fun e w' => e = .returned (.bool true) ∧ VdS w1 zT qs v w' := by
  refine (overT_all o0T_ok h.z).mono ?_
  rintro e w' ⟨rfl, rfl⟩
  exact ⟨rfl, h⟩
theorem VdS.gotT (h : VdS w1 zT qs v w) : Calls Tryd.prog 15 #[.pointer (some ⟨zT, 0, none⟩)] w fun e w' => ∃ A k, e = .returned (.slice A 0 k) ∧ VdS w1 zT qs v w' := by
  refine (gotT_all o0T_ok h.z).mono ?_
  rintro e w' ⟨A, k, xs, hxs, rfl, _, hb⟩
  obtain rfl : xs = [] := by rw [hxs]; rfl
  exact ⟨A, k, rfl, h.below hb⟩
end
end Go.Proofs.YtjpanofkikfeoaaDoor
