/-
  The law's examples (lives); condition: the tables as laid.
  Numbers as values; no condition.
  The list of free slots as a stack: what each step of one alone does; rows of numbers of the call's own beside it; condition: the tables as laid, the list lies as it says.
-/
import Derived.Test.YtmjcbjcnmgleaaaGreatDoorF5
import Derived.Test.YtmjcbjcnmgleaaaGreatDoorP2
import Derived.Outline
import Derived.Test.YtmjcbjcnmgleaaaGreatDoorH1
import Derived.Test.YtmjcbjcnmgleaaaGreatDoorFRow
import Derived.OwnWalk
import Derived.Laws.OwnMore
import Derived.Laws.AppendOwnNone
import Derived.Deep.AppendLies
namespace Go.Proofs.YtmjcbjcnmgleaaaGreatDoor
open Go.RowKit Go.Maps

section
variable {p b q st st' : Nat} {nx h to nx' h' to' : Int} {M M' : MS} {w : World}
theorem pop_to (hq : 1 < q) (F : FM p b st M w) (hs : st < 1000000) (hh : U64 h) (hnx : 0 ≤ nx ∧ nx ≤ 3) (h2 : nx = 2 → 0 ≤ wSlot h) (ho : OpAt 210 q nx h to w) (e : popF ⟨nx, h, to⟩ M = (⟨nx', h', to'⟩, M')) (hc : st + cost ⟨nx, h, to⟩ = st') {c : Bool} (ec : (nx' == 0) = c) :
    Calls Tryz.prog 191 #[.pointer (some ⟨q, 0, none⟩), .pointer (some ⟨p, 0, none⟩)] w fun e w' => e = .returned (.bool c) ∧ OpAt 210 q nx' h' to' w' ∧ FM p b st' M' w' ∧ Only3 p b q w w' := by
  subst hc ec
  have := pop_step (o := ⟨nx, h, to⟩) hq F hs hh hnx h2 ho
  rw [e] at this
  exact this
theorem push_to (hq : 1 < q) (F : FM p b st M w) (hs : st < 1000000) (hh : U64 h) (hnx : 0 ≤ nx ∧ nx ≤ 3) (h2 : nx = 2 → 0 ≤ to ∧ to < 256) (ho : OpAt 198 q nx h to w) (e : pushF ⟨nx, h, to⟩ M = (⟨nx', h', to'⟩, M')) (hc : st + cost ⟨nx, h, to⟩ = st') {c : Bool} (ec : (nx' == 0) = c) :
    Calls Tryz.prog 83 #[.pointer (some ⟨q, 0, none⟩), .pointer (some ⟨p, 0, none⟩)] w fun e w' => e = .returned (.bool c) ∧ OpAt 198 q nx' h' to' w' ∧ FM p b st' M' w' ∧ Only3 p b q w w' := by
  subst hc ec
  have := push_step (o := ⟨nx, h, to⟩) hq F hs hh hnx h2 ho
  rw [e] at this
  exact this
end

def H7 : Int := headW 7 1
def M7 : MS := M0.link 7 0
def M8 : MS := ⟨H7, M7.lk⟩
def M9 : MS := ⟨headW (-1) 2, M7.lk⟩
theorem slot_H7 : wSlot H7 = 7 := slot_head 7 1 (by decide) (by decide)
theorem tag_H7 : fld H7 16 48 = 1 := by unfold H7; rw [tag_head]; decide
theorem M7_7 : M7.lk 7 = 0 := by simp [M7, MS.link]
theorem lv1 : popF ⟨1, 0, 0⟩ M0 = (⟨0, 0, 0⟩, M0) := by simp [popF, M0, slot_zero]
theorem lv2 : pushF ⟨1, 0, 7⟩ M0 = (⟨2, 0, 7⟩, M0) := by simp [pushF, M0]
theorem lv3 : pushF ⟨2, 0, 7⟩ M0 = (⟨3, 0, 7⟩, M7) := by simp [pushF, M7, slot_zero, head_none]
theorem lv4 : pushF ⟨3, 0, 7⟩ M7 = (⟨0, 0, 7⟩, M8) := by
  have : fld 0 16 48 = 0 := by decide
  simp [pushF, swapF, M8, M7, M0, MS.link, nextW, H7, this]
theorem lv5 : popF ⟨1, 0, 0⟩ M8 = (⟨2, H7, 0⟩, M8) := by simp [popF, M8, slot_H7]
theorem lv6 : popF ⟨2, H7, 0⟩ M8 = (⟨3, H7, -1⟩, M8) := by simp [popF, slot_H7, M8, M7_7, slot_zero]
theorem lv7 : popF ⟨3, H7, -1⟩ M8 = (⟨0, H7, -1⟩, M9) := by simp [popF, swapF, M8, M9, nextW, tag_H7]
theorem H7_u64 : U64 H7 := head_u64 7 1

end Go.Proofs.YtmjcbjcnmgleaaaGreatDoor
namespace Go.Proofs.YtmjcbjcnmgleaaaGreatDoor
open Go.RowKit Go.Maps

def iV (n : Int) : Value := .int .i64 n
theorem ints_at {l : List Int} {k : Nat} (d : Int) (h : k < l.length) : (l.map iV)[k]? = some (.int .i64 (l.getD k d)) := by
  simp [iV, List.getD_eq_getElem?_getD, List.getElem?_eq_getElem h]
theorem Tryz_infoI : (Tryz.prog.info? 3).map (fun i => (i.zero, i.size, i.bytes)) = some (some (.int .i64 0), 1, 8) := by kernel_rfl
end Go.Proofs.YtmjcbjcnmgleaaaGreatDoor
namespace Go.Proofs.YtmjcbjcnmgleaaaGreatDoor
open Go.RowKit Go.Maps

theorem own_same {w w' : World} {base : Nat} {e : TypeId} {size : Nat} {v : Value} {n : Nat} {xs : List Value} (h : w.ownsRow base e size v n xs) (hs : ∀ g, v.ownBlock = some g → w'.heap[g]? = w.heap[g]?) : w'.ownsRow base e size v n xs := by
  refine ⟨h.1, ?_⟩
  rcases h.2 with h2 | ⟨g, cap, cur, hv, hg, hh, r⟩
  · exact .inl h2
  · subst hv
    exact .inr ⟨g, cap, cur, rfl, hg, (hs g rfl).trans hh, r⟩
theorem own_low {w w' : World} {base : Nat} {e : TypeId} {size : Nat} {v : Value} {n : Nat} {xs : List Value} (h : w.ownsRow base e size v n xs) (hb : Below w.heap.size w w') : w'.ownsRow base e size v n xs :=
  own_same h fun g hg => hb.block g (h.lt g hg).2
theorem own_slice {w : World} {base : Nat} {e : TypeId} {size : Nat} {v : Value} {n : Nat} {xs : List Value} (h : w.ownsRow base e size v n xs) : ∃ A c, v = .slice A n c ∧ n ≤ c ∧ c ≤ 9223372036854775807 ∧ (A = Option.none → c = 0) := by
  rcases h.2 with ⟨rfl, rfl⟩ | ⟨g, cap, cur, rfl, _, _, hc, hm, _⟩
  · exact ⟨Option.none, 0, rfl, Nat.le_refl _, by omega, fun _ => rfl⟩
  · exact ⟨_, cap, rfl, hc, by unfold maxLen at hm; exact hm, fun e => by cases e⟩
theorem own_form {w : World} {base : Nat} {e : TypeId} {size : Nat} {A : Option Addr} {n c : Nat} {xs : List Value} (h : w.ownsRow base e size (.slice A n c) n xs) (hn : 0 < n) : ∃ g, A = some ⟨g, 0, Option.none⟩ ∧ base ≤ g ∧ g < w.heap.size := by
  obtain ⟨g, cap, hv, h1, h2⟩ := h.form hn
  injection hv with hv
  exact ⟨g, hv, h1, h2⟩

/-- The list, and how it stands, after at most n steps. -/
def SM (p b n : Nat) (s : List Int) (T : Int) (w : World) : Prop := ∃ st M, st ≤ n ∧ FM p b st M w ∧ Stk M s T
/-- .. and slot x, which hangs before it. -/
def SX (p b n : Nat) (s : List Int) (T x : Int) (w : World) : Prop := ∃ st M, st ≤ n ∧ FM p b st M w ∧ Stk M s T ∧ wSlot (M.lk x) = topOf s
section
variable {p b q n n' : Nat} {s r : List Int} {x T : Int} {w w' : World}
theorem SM.mono (h : SM p b n s T w) (hn : n ≤ n') : SM p b n' s T w := by
  obtain ⟨st, M, h1, h2⟩ := h
  exact ⟨st, M, by omega, h2⟩
theorem SM.below (h : SM p b n s T w) (hb : Below w.heap.size w w') : SM p b n s T w' := by
  obtain ⟨st, M, h1, h2, h3⟩ := h
  exact ⟨st, M, h1, h2.below hb, h3⟩
theorem SM.lay (h : SM p b n s T w) : Lay w := by obtain ⟨_, _, _, h2, _⟩ := h; exact h2.lay
theorem SM.laym (h : SM p b n s T w) : LayM w := by obtain ⟨_, _, _, h2, _⟩ := h; exact h2.laym
theorem SM.top (h : SM p b n s T w) : wSlot (headW (topOf s) T) = topOf s := by obtain ⟨_, _, _, _, h3⟩ := h; exact h3.slot
theorem SM.tag (h : SM p b n s T w) : fld (headW (topOf s) T) 16 48 = T := by obtain ⟨_, _, _, _, h3⟩ := h; exact tag_small _ _ h3.t0 h3.t1
theorem SM.first (h : SM p b n (x :: r) T w) : 0 ≤ x ∧ x < 256 := by obtain ⟨_, _, _, _, h3⟩ := h; exact ⟨h3.ch.1.1, h3.ch.1.2.1⟩
theorem SM.lt (h : SM p b n s T w) : p < w.heap.size ∧ b < w.heap.size := by obtain ⟨_, _, _, h2, _⟩ := h; exact h2.lt
theorem SM.p1 (h : SM p b n s T w) : 1 < p ∧ 1 < b := by obtain ⟨_, _, _, h2, _⟩ := h; exact ⟨h2.p1, h2.b1⟩
/-- A row of the call's own is no block of the memory's. -/
theorem SM.row (h : SM p b n s T w) {base : Nat} {e : TypeId} {size : Nat} {v : Value} {m : Nat} {xs : List Value} (ho : w.ownsRow base e size v m xs) (he : e ≠ 121) (t : TypeId) {nx hh to : Int} (oq : OpAt t q nx hh to w) (het : e ≠ t) (hk : Only3 p b q w w') : w'.ownsRow base e size v m xs := by
  obtain ⟨_, _, _, ⟨⟨_, _, _, _, _, _, _, _, _, _, _, hm, _⟩, _⟩, _⟩ := h
  rcases ho.2 with h2 | ⟨g, cap, cur, hv, hg, hh, r⟩
  · exact ⟨ho.1, .inl h2⟩
  · refine ⟨ho.1, .inr ⟨g, cap, cur, hv, hg, (hk.block g (Array.getElem?_eq_some_iff.1 hh).1 ?_ ?_ ?_).trans hh, r⟩⟩
    · rintro rfl
      have := hm.blk.symm.trans hh
      simp only [Option.some.injEq, Obj.cells.injEq] at this
      exact he this.2.1.symm
    · rintro rfl
      obtain ⟨_, _, hb, _⟩ := hm.own
      have := hb.symm.trans hh
      simp at this
    · rintro rfl
      unfold OpAt at oq
      have := oq.symm.trans hh
      simp only [Option.some.injEq, Obj.cells.injEq] at this
      exact het this.2.1.symm
/-- An operation aside. -/
theorem SM.aside (h : SM p b n s T w) {q2 : Nat} {t2 : TypeId} {nx2 h2 to2 : Int} (o2 : OpAt t2 q2 nx2 h2 to2 w) (ht : t2 ≠ 121) (hne : q2 ≠ q) (hk : Only3 p b q w w') : OpAt t2 q2 nx2 h2 to2 w' := by
  obtain ⟨_, _, _, F, _⟩ := h
  obtain ⟨e1, e2⟩ := F.ne ht o2
  exact o2.same (hk.block q2 o2.lt e1 e2 hne)

theorem pop_a (hq : 1 < q) (h : SM p b n (x :: r) T w) (hn : n < 900000) (o : OpAt 210 q 1 0 0 w) :
    Calls Tryz.prog 191 #[.pointer (some ⟨q, 0, none⟩), .pointer (some ⟨p, 0, none⟩)] w fun e w' => e = .returned (.bool false) ∧ OpAt 210 q 2 (headW x T) 0 w' ∧ SM p b (n + 1) (x :: r) T w' ∧ Only3 p b q w w' := by
  obtain ⟨st, M, h1, F, S⟩ := h
  refine (pop_to hq F (by omega) u64_0 (by decide) (fun h => absurd h (by decide)) o (stk_pop_a S 0) rfl rfl).mono ?_
  rintro e w' ⟨rfl, o', F', hk⟩
  exact ⟨rfl, o', ⟨_, M, by have := cost_le ⟨1, 0, 0⟩; omega, F', S⟩, hk⟩
theorem pop_b (hq : 1 < q) (h : SM p b n (x :: r) T w) (hn : n < 900000) (o : OpAt 210 q 2 (headW x T) 0 w) :
    Calls Tryz.prog 191 #[.pointer (some ⟨q, 0, none⟩), .pointer (some ⟨p, 0, none⟩)] w fun e w' => e = .returned (.bool false) ∧ OpAt 210 q 3 (headW x T) (topOf r) w' ∧ SM p b (n + 1) (x :: r) T w' ∧ Only3 p b q w w' := by
  obtain ⟨st, M, h1, F, S⟩ := h
  have hs := S.slot
  simp only [topOf] at hs
  refine (pop_to hq F (by omega) (head_u64 x T) (by decide) (fun _ => by rw [hs]; exact S.ch.1.1) o (stk_pop_b S 0) rfl rfl).mono ?_
  rintro e w' ⟨rfl, o', F', hk⟩
  exact ⟨rfl, o', ⟨_, M, by have := cost_le ⟨2, headW x T, 0⟩; omega, F', S⟩, hk⟩
theorem pop_c (hq : 1 < q) (h : SM p b n (x :: r) T w) (hn : n < 900000) (ht : T + 1 < 1000000) (o : OpAt 210 q 3 (headW x T) (topOf r) w) :
    Calls Tryz.prog 191 #[.pointer (some ⟨q, 0, none⟩), .pointer (some ⟨p, 0, none⟩)] w fun e w' => e = .returned (.bool true) ∧ OpAt 210 q 0 (headW x T) (topOf r) w' ∧ SM p b (n + 1) r (T + 1) w' ∧ Only3 p b q w w' := by
  obtain ⟨st, M, h1, F, S⟩ := h
  refine (pop_to hq F (by omega) (head_u64 x T) (by decide) (fun h => absurd h (by decide)) o (stk_pop_c S) rfl rfl).mono ?_
  rintro e w' ⟨rfl, o', F', hk⟩
  exact ⟨rfl, o', ⟨_, _, by have := cost_le ⟨3, headW x T, topOf r⟩; omega, F', S.popped ht⟩, hk⟩
/-- An old Pop, at its last line. -/
theorem pop_late (hq : 1 < q) (h : SM p b n s T w) (hn : n < 900000) {h' to : Int} (hu : U64 h') (hne : headW (topOf s) T ≠ h') (o : OpAt 210 q 3 h' to w) :
    Calls Tryz.prog 191 #[.pointer (some ⟨q, 0, none⟩), .pointer (some ⟨p, 0, none⟩)] w fun e w' => e = .returned (.bool false) ∧ OpAt 210 q 1 h' to w' ∧ SM p b (n + 1) s T w' ∧ Only3 p b q w w' := by
  obtain ⟨st, M, h1, F, S⟩ := h
  refine (pop_to hq F (by omega) hu (by decide) (fun h => absurd h (by decide)) o (stk_late S hne) rfl rfl).mono ?_
  rintro e w' ⟨rfl, o', F', hk⟩
  exact ⟨rfl, o', ⟨_, _, by have := cost_le ⟨3, h', to⟩; omega, F', S⟩, hk⟩
theorem push_a (hq : 1 < q) (h : SM p b n s T w) (hn : n < 900000) (o : OpAt 198 q 1 0 x w) :
    Calls Tryz.prog 83 #[.pointer (some ⟨q, 0, none⟩), .pointer (some ⟨p, 0, none⟩)] w fun e w' => e = .returned (.bool false) ∧ OpAt 198 q 2 (headW (topOf s) T) x w' ∧ SM p b (n + 1) s T w' ∧ Only3 p b q w w' := by
  obtain ⟨st, M, h1, F, S⟩ := h
  refine (push_to hq F (by omega) u64_0 (by decide) (fun h => absurd h (by decide)) o (stk_push_a S) rfl rfl).mono ?_
  rintro e w' ⟨rfl, o', F', hk⟩
  exact ⟨rfl, o', ⟨_, _, by have := cost_le ⟨1, 0, x⟩; omega, F', S⟩, hk⟩
theorem push_b (hq : 1 < q) (h : SM p b n s T w) (hn : n < 900000) (hx : x ∉ s) (h0 : 0 ≤ x) (h1 : x < 256) (o : OpAt 198 q 2 (headW (topOf s) T) x w) :
    Calls Tryz.prog 83 #[.pointer (some ⟨q, 0, none⟩), .pointer (some ⟨p, 0, none⟩)] w fun e w' => e = .returned (.bool false) ∧ OpAt 198 q 3 (headW (topOf s) T) x w' ∧ SX p b (n + 1) s T x w' ∧ Only3 p b q w w' := by
  obtain ⟨st, M, h2, F, S⟩ := h
  refine (push_to hq F (by omega) (head_u64 _ _) (by decide) (fun _ => ⟨h0, h1⟩) o (stk_push_b S) rfl rfl).mono ?_
  rintro e w' ⟨rfl, o', F', hk⟩
  exact ⟨rfl, o', ⟨_, _, by have := cost_le ⟨2, headW (topOf s) T, x⟩; omega, F', S.linked hx⟩, hk⟩
theorem push_c (hq : 1 < q) (h : SX p b n s T x w) (hn : n < 900000) (hx : x ∉ s) (h0 : 0 ≤ x) (h1 : x < 256) (ht : T + 1 < 1000000) (o : OpAt 198 q 3 (headW (topOf s) T) x w) :
    Calls Tryz.prog 83 #[.pointer (some ⟨q, 0, none⟩), .pointer (some ⟨p, 0, none⟩)] w fun e w' => e = .returned (.bool true) ∧ OpAt 198 q 0 (headW (topOf s) T) x w' ∧ SM p b (n + 1) (x :: s) (T + 1) w' ∧ Only3 p b q w w' := by
  obtain ⟨st, M, h2, F, S, hl⟩ := h
  refine (push_to hq F (by omega) (head_u64 _ _) (by decide) (fun h => absurd h (by decide)) o (stk_push_c S) rfl rfl).mono ?_
  rintro e w' ⟨rfl, o', F', hk⟩
  exact ⟨rfl, o', ⟨_, _, by have := cost_le ⟨3, headW (topOf s) T, x⟩; omega, F', S.pushed hl hx h0 h1 ht⟩, hk⟩
theorem SX.sm (h : SX p b n s T x w) : SM p b n s T w := by
  obtain ⟨st, M, h1, h2, h3, _⟩ := h
  exact ⟨st, M, h1, h2, h3⟩
end
end Go.Proofs.YtmjcbjcnmgleaaaGreatDoor
