/-
  Package frees over the list in plain words: a step of a Pop and of a Push does what the plain one does; condition: the tables as laid, the operation and the memory lie as they say.
  Package frees: what a Pop got; a new memory; the law's examples (lives); condition: the tables as laid.
-/
import Derived.Test.YtmjcbjcnmgleaaaGreatDoorH1
import Derived.Test.YtmjcbjcnmgleaaaGreatDoorF4
import Derived.Test.YtmjcbjcnmgleaaaGreatDoorP2
namespace Go.Proofs.YtmjcbjcnmgleaaaGreatDoor
open Go.RowKit Go.Maps

/-- A memory of which the list's words are known: its struct in block p, its map in block b, st steps. -/
structure FM (p b st : Nat) (M : MS) (w : World) : Prop where
  mem : ∃ n D ak k a f was is done, n ≤ st ∧ IsMap D ∧ PM p b n D (st : Int) ak k a f was is done w ∧ valD D adF = M.hd ∧ ∀ s (hs : I64w s), 0 ≤ s → s < 256 → valD D (adL s hs) = M.lk s
  lay : Lay w
  laym : LayM w
  p1 : 1 < p
  b1 : 1 < b

theorem adF_ne (s : Int) (hs : I64w s) : adF ≠ adL s hs := by
  intro h
  have := congrArg Ad.k h
  simp [adF, adL] at this
theorem adL_ne {s s' : Int} (hs : I64w s) (hs' : I64w s') (h : s ≠ s') : adL s hs ≠ adL s' hs' := by
  intro e
  exact h (by simpa [adL] using congrArg Ad.a e)
theorem mayF : mayB adF.k adF.a adF.f = true := by decide
theorem mayL (s : Int) (hs : I64w s) (h0 : 0 ≤ s) (h1 : s < 256) : mayB (adL s hs).k (adL s hs).a (adL s hs).f = true := by
  simp [mayB, adL, atRoom, fieldRoom, h0, h1]
theorem Only3.lay {p b q : Nat} {X Y : World} (h : Only3 p b q X Y) (hp : 1 < p) (hb : 1 < b) (hq : 1 < q) (hl : Lay X) : Lay Y := hl.same3 h.size (h.block 1 hl.1 (by omega) (by omega) (by omega))
theorem Only3.laym {p b q : Nat} {X Y : World} (h : Only3 p b q X Y) (hp : 1 < p) (hb : 1 < b) (hq : 1 < q) (hl : LayM X) : LayM Y := hl.same h.size (h.block 0 hl.1 (by omega) (by omega) (by omega))

section
variable {p b q st : Nat} {o : OS} {M : MS} {w w' : World}
theorem FM.below (F : FM p b st M w) (hb : Below w.heap.size w w') : FM p b st M w' := by
  obtain ⟨⟨n, D, ak, k, a, f, was, is, done, h1, h2, h3, h4⟩, hl, hm, hp, hq⟩ := F
  exact ⟨⟨n, D, ak, k, a, f, was, is, done, h1, h2, h3.below hb, h4⟩, hl.below hb, hm.below hb, hp, hq⟩
theorem FM.hd_u64 (F : FM p b st M w) : U64 M.hd := by
  obtain ⟨⟨n, D, ak, k, a, f, was, is, done, h1, h2, h3, h4, h5⟩, _⟩ := F
  rw [← h4]
  exact h3.val_u64 _
theorem FM.steps (F : FM p b st M w) : Calls Tryz.prog 17 #[.pointer (some ⟨p, 0, none⟩)] w fun e w' => e = .returned (.int .i64 st) ∧ w = w' := by
  obtain ⟨⟨n, D, ak, k, a, f, was, is, done, h1, h2, h3, h4, h5⟩, _⟩ := F
  exact steps_prog p b n D st ak k a f was is done w h3
theorem FM.lt (F : FM p b st M w) : p < w.heap.size ∧ b < w.heap.size := by
  obtain ⟨⟨n, D, ak, k, a, f, was, is, done, h1, h2, h3, h4, h5⟩, _⟩ := F
  exact ⟨h3.lt, h3.own.lt⟩
theorem FM.ne (F : FM p b st M w) {t : TypeId} {nx h to : Int} (ht : t ≠ 121) (o : OpAt t q nx h to w) : q ≠ p ∧ q ≠ b := by
  obtain ⟨⟨n, D, ak, k, a, f, was, is, done, h1, h2, h3, h4, h5⟩, _⟩ := F
  exact ⟨o.ne_p h3 ht, o.ne_b h3⟩

/-- What a step leaves: the operation, the memory. -/
def Stepped (t : TypeId) (p b q st : Nat) (R : OS × MS) (w w' : World) : Prop := OpAt t q R.1.nx R.1.h R.1.to w' ∧ FM p b st R.2 w' ∧ Only3 p b q w w'

theorem read_step {t : TypeId} (ht : t ≠ 121) (hq : 1 < q) (F : FM p b st M w) (hs : st < 1000000) (ho : OpAt t q o.nx o.h o.to w) :
    ∀ X, Below w.heap.size w X → Calls Tryz.prog 142 #[.pointer (some ⟨q, 0, none⟩), .pointer (some ⟨p, 0, none⟩)] X fun e Y => e = .returned (.int .i64 2) ∧ OpAt t q o.nx M.hd o.to Y ∧ FM p b (st + 1) M Y ∧ Only3 p b q X Y := by
  intro X hX
  have F' := F.below hX
  have o' := ho.below hX
  obtain ⟨⟨n, D, ak, k, a, f, was, is, done, h1, h2, h3, h4, h5⟩, hl, hm, hp, hb⟩ := F'
  refine (read_any ht (by omega) (by omega) o' h3).mono ?_
  rintro e Y ⟨rfl, oY, mY, hY⟩
  rw [h4] at oY
  exact ⟨rfl, oY, ⟨⟨n, D, _, _, _, _, _, _, _, by omega, h2, by exact_mod_cast mY, h4, h5⟩, hY.lay hp hb hq hl, hY.laym hp hb hq hm, hp, hb⟩, hY⟩
theorem start_step (hq : 1 < q) (F : FM p b st M w) (hs : st < 1000000) (ho : OpAt 210 q o.nx o.h o.to w) :
    ∀ X, Below w.heap.size w X → Calls Tryz.prog 193 #[.pointer (some ⟨q, 0, none⟩), .pointer (some ⟨p, 0, none⟩)] X fun e Y => e = .returned (.int .i64 (if wSlot M.hd < 0 then 0 else 2)) ∧ OpAt 210 q o.nx M.hd o.to Y ∧ FM p b (st + 1) M Y ∧ Only3 p b q X Y := by
  intro X hX
  have F' := F.below hX
  have o' := ho.below hX
  obtain ⟨⟨n, D, ak, k, a, f, was, is, done, h1, h2, h3, h4, h5⟩, hl, hm, hp, hb⟩ := F'
  refine (start_any (by omega) (by omega) hl (by omega) (by omega) (by omega) o' h3).mono ?_
  rintro e Y ⟨rfl, oY, mY, hY⟩
  rw [h4] at oY
  exact ⟨by rw [h4], oY, ⟨⟨n, D, _, _, _, _, _, _, _, by omega, h2, by exact_mod_cast mY, h4, h5⟩, hY.lay hp hb hq hl, hY.laym hp hb hq hm, hp, hb⟩, hY⟩
theorem look_step (hq : 1 < q) (F : FM p b st M w) (hs : st < 1000000) (hh : U64 o.h) (h0 : 0 ≤ wSlot o.h) (ho : OpAt 210 q o.nx o.h o.to w) :
    ∀ X, Below w.heap.size w X → Calls Tryz.prog 194 #[.pointer (some ⟨q, 0, none⟩), .pointer (some ⟨p, 0, none⟩)] X fun e Y => e = .returned (.int .i64 3) ∧ OpAt 210 q o.nx o.h (wSlot (M.lk (wSlot o.h))) Y ∧ FM p b (st + 1) M Y ∧ Only3 p b q X Y := by
  intro X hX
  have F' := F.below hX
  have o' := ho.below hX
  obtain ⟨⟨n, D, ak, k, a, f, was, is, done, h1, h2, h3, h4, h5⟩, hl, hm, hp, hb⟩ := F'
  refine (look_any (by omega) (by omega) hl (by omega) (by omega) (by omega) hh o' h3).mono ?_
  rintro e Y ⟨rfl, oY, mY, hY⟩
  have := slot_in o.h
  rw [h5 _ _ h0 (by omega)] at oY
  exact ⟨rfl, oY, ⟨⟨n, D, _, _, _, _, _, _, _, by omega, h2, by exact_mod_cast mY, h4, h5⟩, hY.lay hp hb hq hl, hY.laym hp hb hq hm, hp, hb⟩, hY⟩
theorem hang_step (hq : 1 < q) (F : FM p b st M w) (hs : st < 1000000) (hh : U64 o.h) (h0 : 0 ≤ o.to) (h1 : o.to < 256) (ho : OpAt 198 q o.nx o.h o.to w) :
    ∀ X, Below w.heap.size w X → Calls Tryz.prog 143 #[.pointer (some ⟨q, 0, none⟩), .pointer (some ⟨p, 0, none⟩)] X fun e Y => e = .returned (.int .i64 3) ∧ OpAt 198 q o.nx o.h o.to Y ∧ FM p b (st + 1) (M.link o.to (headW (wSlot o.h) 0)) Y ∧ Only3 p b q X Y := by
  intro X hX
  have F' := F.below hX
  have o' := ho.below hX
  obtain ⟨⟨n, D, ak, k, a, f, was, is, done, h1', h2, h3, h4, h5⟩, hl, hm, hp, hb⟩ := F'
  have hto : I64w o.to := i64w_in (by omega) (by omega)
  refine (hang_any (by omega) (by omega) (by omega) hl hm (by omega) (by omega) hh hto o' h3).mono ?_
  rintro e Y ⟨rfl, oY, mY, hY⟩
  have e1 : storeD D (adL o.to hto) (headW (wSlot o.h) 0) = putD D (adL o.to hto) (headW (wSlot o.h) 0) := if_pos (mayL _ _ h0 h1)
  rw [e1] at mY
  refine ⟨rfl, oY, ⟨⟨n + 1, _, _, _, _, _, _, _, _, by omega, isMap_putD h2 _ _, by exact_mod_cast mY, ?_, ?_⟩, hY.lay hp hb hq hl, hY.laym hp hb hq hm, hp, hb⟩, hY⟩
  · exact (valD_put_other D (adF_ne _ _) _).trans h4
  · intro s hsw hs0 hs1
    by_cases hse : s = o.to
    · subst hse
      simp only [MS.link, if_true]
      exact valD_put_same D h2 _ _
    · simp only [MS.link, if_neg hse]
      exact (valD_put_other D (adL_ne _ _ hse) _).trans (h5 s hsw hs0 hs1)
theorem swap_step {t : TypeId} (ht : t ≠ 121) (hq : 1 < q) (F : FM p b st M w) (hs : st < 1000000) (hh : U64 o.h) (ho : OpAt t q o.nx o.h o.to w) :
    ∀ X, Below w.heap.size w X → Calls Tryz.prog 144 #[.pointer (some ⟨q, 0, none⟩), .pointer (some ⟨p, 0, none⟩)] X fun e Y => e = .returned (.int .i64 (swapF o M).1.nx) ∧ OpAt t q o.nx o.h o.to Y ∧ FM p b (st + 1) (swapF o M).2 Y ∧ Only3 p b q X Y := by
  intro X hX
  have F' := F.below hX
  have o' := ho.below hX
  obtain ⟨⟨n, D, ak, k, a, f, was, is, done, h1', h2, h3, h4, h5⟩, hl, hm, hp, hb⟩ := F'
  refine (swap_any ht (by omega) (by omega) (by omega) hl hm hh o' h3).mono ?_
  rintro e Y ⟨rfl, oY, mY, hY⟩
  have ec : casB D adF o.h = decide (M.hd = o.h) := by
    unfold casB
    rw [mayF, h4]
    rfl
  by_cases hc : M.hd = o.h
  · have hc' : casB D adF o.h = true := by rw [ec]; simpa using hc
    have ed : casD D adF o.h (nextW o.h o.to) = putD D adF (nextW o.h o.to) := if_pos hc'
    rw [ed] at mY
    unfold swapF
    rw [if_pos hc, hc']
    refine ⟨rfl, oY, ⟨⟨n + 1, _, _, _, _, _, _, _, _, by omega, isMap_putD h2 _ _, by exact_mod_cast mY, valD_put_same D h2 _ _, ?_⟩, hY.lay hp hb hq hl, hY.laym hp hb hq hm, hp, hb⟩, hY⟩
    intro s hsw hs0 hs1
    exact (valD_put_other D (Ne.symm (adF_ne s hsw)) _).trans (h5 s hsw hs0 hs1)
  · have hc' : casB D adF o.h = false := by rw [ec]; simpa using hc
    have ed : casD D adF o.h (nextW o.h o.to) = D := if_neg (by rw [hc']; simp)
    rw [ed] at mY
    unfold swapF
    rw [if_neg hc, hc']
    exact ⟨rfl, oY, ⟨⟨n + 1, _, _, _, _, _, _, _, _, by omega, h2, by exact_mod_cast mY, h4, h5⟩, hY.lay hp hb hq hl, hY.laym hp hb hq hm, hp, hb⟩, hY⟩
theorem FM.setQ (F : FM p b st M w) (hp : q ≠ p) (hb : q ≠ b) (hq : 1 < q) (i : Nat) (v : Value) : FM p b st M (w.setCell ⟨q, i, none⟩ v) := by
  obtain ⟨⟨n, D, ak, k, a, f, was, is, done, h1, h2, h3, h4⟩, hl, hm, hp1, hb1⟩ := F
  have ho := Only3.setCell p b q w i v
  exact ⟨⟨n, D, ak, k, a, f, was, is, done, h1, h2, h3.setQ hp hb i v, h4⟩, ho.lay hp1 hb1 hq hl, ho.laym hp1 hb1 hq hm, hp1, hb1⟩

/-- A step of a Pop. -/
theorem pop_step (hq : 1 < q) (F : FM p b st M w) (hs : st < 1000000) (hh : U64 o.h) (hnx : 0 ≤ o.nx ∧ o.nx ≤ 3) (h2 : o.nx = 2 → 0 ≤ wSlot o.h) (ho : OpAt 210 q o.nx o.h o.to w) :
    Calls Tryz.prog 191 #[.pointer (some ⟨q, 0, none⟩), .pointer (some ⟨p, 0, none⟩)] w fun e w' => e = .returned (.bool ((popF o M).1.nx == 0)) ∧ Stepped 210 p b q (st + cost o) (popF o M) w w' := by
  obtain ⟨hqp, hqb⟩ := F.ne (by decide) ho
  have hset : ∀ M' X v, FM p b (st + 1) M' X → FM p b (st + 1) M' (X.setCell ⟨q, 0, none⟩ v) := fun M' X v h => h.setQ hqp hqb hq 0 v
  obtain h | h | h | h : o.nx = 0 ∨ o.nx = 1 ∨ o.nx = 2 ∨ o.nx = 3 := by omega
  · have e : popF o M = (o, M) := by unfold popF; rw [if_neg (by omega), if_neg (by omega), if_neg (by omega)]
    have ec : cost o = 0 := by unfold cost; rw [if_pos h]
    rw [e, ec, Nat.add_zero]
    have ho' := ho
    rw [h] at ho'
    refine (popStep_over _ ho').mono ?_
    rintro e w' ⟨rfl, rfl⟩
    exact ⟨by simp [h], ho, F, Only3.refl _ _ _ _⟩
  · have e : popF o M = (⟨if wSlot M.hd < 0 then 0 else 2, M.hd, o.to⟩, M) := by unfold popF; rw [if_pos h]
    have ec : cost o = 1 := by unfold cost; rw [if_neg (by omega)]
    rw [e, ec]
    have hl := start_step hq F hs ho
    rw [h] at ho hl
    refine (popStep_1 ho (fun X v => hset M X v) hl).mono ?_
    rintro e w' ⟨rfl, h1, h2, h3⟩
    exact ⟨rfl, h1, h2, h3⟩
  · have e : popF o M = (⟨3, o.h, wSlot (M.lk (wSlot o.h))⟩, M) := by unfold popF; rw [if_neg (by omega), if_pos h]
    have ec : cost o = 1 := by unfold cost; rw [if_neg (by omega)]
    rw [e, ec]
    have hl := look_step hq F hs hh (h2 h) ho
    rw [h] at ho hl
    refine (popStep_2 ho (fun X v => hset M X v) hl).mono ?_
    rintro e w' ⟨rfl, h1, h2, h3⟩
    exact ⟨rfl, h1, h2, h3⟩
  · have e : popF o M = swapF o M := by unfold popF; rw [if_neg (by omega), if_neg (by omega), if_pos h]
    have ec : cost o = 1 := by unfold cost; rw [if_neg (by omega)]
    rw [e, ec]
    have hl := swap_step (by decide) hq F hs hh ho
    rw [h] at ho hl
    have e1 : (swapF o M).1.h = o.h ∧ (swapF o M).1.to = o.to := by unfold swapF; split <;> exact ⟨rfl, rfl⟩
    refine (popStep_3 ho (fun X v => hset _ X v) hl).mono ?_
    rintro e w' ⟨rfl, h1, h2, h3⟩
    exact ⟨rfl, by rw [e1.1, e1.2]; exact h1, h2, h3⟩
/-- A step of a Push. -/
theorem push_step (hq : 1 < q) (F : FM p b st M w) (hs : st < 1000000) (hh : U64 o.h) (hnx : 0 ≤ o.nx ∧ o.nx ≤ 3) (h2 : o.nx = 2 → 0 ≤ o.to ∧ o.to < 256) (ho : OpAt 198 q o.nx o.h o.to w) :
    Calls Tryz.prog 83 #[.pointer (some ⟨q, 0, none⟩), .pointer (some ⟨p, 0, none⟩)] w fun e w' => e = .returned (.bool ((pushF o M).1.nx == 0)) ∧ Stepped 198 p b q (st + cost o) (pushF o M) w w' := by
  obtain ⟨hqp, hqb⟩ := F.ne (by decide) ho
  have hset : ∀ M' X v, FM p b (st + 1) M' X → FM p b (st + 1) M' (X.setCell ⟨q, 0, none⟩ v) := fun M' X v h => h.setQ hqp hqb hq 0 v
  obtain h | h | h | h : o.nx = 0 ∨ o.nx = 1 ∨ o.nx = 2 ∨ o.nx = 3 := by omega
  · have e : pushF o M = (o, M) := by unfold pushF; rw [if_neg (by omega), if_neg (by omega), if_neg (by omega)]
    have ec : cost o = 0 := by unfold cost; rw [if_pos h]
    rw [e, ec, Nat.add_zero]
    have ho' := ho
    rw [h] at ho'
    refine (pushStep_over _ ho').mono ?_
    rintro e w' ⟨rfl, rfl⟩
    exact ⟨by simp [h], ho, F, Only3.refl _ _ _ _⟩
  · have e : pushF o M = (⟨2, M.hd, o.to⟩, M) := by unfold pushF; rw [if_pos h]
    have ec : cost o = 1 := by unfold cost; rw [if_neg (by omega)]
    rw [e, ec]
    have hl := read_step (by decide) hq F hs ho
    rw [h] at ho hl
    refine (pushStep_1 ho (fun X v => hset M X v) hl).mono ?_
    rintro e w' ⟨rfl, h1, h2, h3⟩
    exact ⟨rfl, h1, h2, h3⟩
  · have e : pushF o M = (⟨3, o.h, o.to⟩, M.link o.to (headW (wSlot o.h) 0)) := by unfold pushF; rw [if_neg (by omega), if_pos h]
    have ec : cost o = 1 := by unfold cost; rw [if_neg (by omega)]
    rw [e, ec]
    have hl := hang_step hq F hs hh (h2 h).1 (h2 h).2 ho
    rw [h] at ho hl
    refine (pushStep_2 ho (fun X v => hset _ X v) hl).mono ?_
    rintro e w' ⟨rfl, h1, h2, h3⟩
    exact ⟨rfl, h1, h2, h3⟩
  · have e : pushF o M = swapF o M := by unfold pushF; rw [if_neg (by omega), if_neg (by omega), if_pos h]
    have ec : cost o = 1 := by unfold cost; rw [if_neg (by omega)]
    rw [e, ec]
    have hl := swap_step (by decide) hq F hs hh ho
    rw [h] at ho hl
    have e1 : (swapF o M).1.h = o.h ∧ (swapF o M).1.to = o.to := by unfold swapF; split <;> exact ⟨rfl, rfl⟩
    refine (pushStep_3 ho (fun X v => hset _ X v) hl).mono ?_
    rintro e w' ⟨rfl, h1, h2, h3⟩
    exact ⟨rfl, by rw [e1.1, e1.2]; exact h1, h2, h3⟩
end
end Go.Proofs.YtmjcbjcnmgleaaaGreatDoor
namespace Go.Proofs.YtmjcbjcnmgleaaaGreatDoor
open Go.RowKit Go.Maps

theorem Only3.below {p b q B : Nat} {X Y : World} (h : Only3 p b q X Y) (hp : B ≤ p) (hb : B ≤ b) (hq : B ≤ q) (hB : B ≤ X.heap.size) : Below B X Y :=
  ⟨h.os, h.tape, h.output, h.size, fun k hk => h.block k (by omega) (by omega) (by omega) (by omega)⟩
section
variable {p b q st : Nat} {nx h to : Int} {w : World}
theorem got_nil (w : World) : Calls Tryz.prog 111 #[.pointer none] w fun e w' => e = .returned (.tuple #[.int .i64 0, .bool false]) ∧ w = w' := by
  go_enter Tryz.func111, Tryz.ntmps111
  go_wp2_with fail
  go_ret2
  exact ⟨rfl, rfl⟩
theorem got_run (hn : nx ≠ 0) (o : OpAt 210 q nx h to w) : Calls Tryz.prog 111 #[.pointer (some ⟨q, 0, none⟩)] w fun e w' => e = .returned (.tuple #[.int .i64 0, .bool false]) ∧ w = w' := by
  have HO := Lib.hid o
  have hz : (nx == 0) = false := by simpa using hn
  clear o hn
  go_enter Tryz.func111, Tryz.ntmps111
  go_wp2_with (go_at_call 119; refine (over_any HO.out).mono ?_; rintro e w' ⟨rfl, rfl⟩)
  go_ret2
  exact ⟨rfl, rfl⟩
theorem got_none (hL : Lay w) (hh : U64 h) (hs : wSlot h < 0) (o : OpAt 210 q 0 h to w) : Calls Tryz.prog 111 #[.pointer (some ⟨q, 0, none⟩)] w fun e w' => e = .returned (.tuple #[.int .i64 0, .bool false]) ∧ ∃ n, w' = w.drewN n := by
  have HO := Lib.hid o
  have HL := Lib.hid hL
  clear o hL
  go_enter Tryz.func111, Tryz.ntmps111
  go_wp2_with (first
    | (go_at_call 119; refine (over_any HO.out).mono ?_; rintro e w' ⟨rfl, rfl⟩)
    | (go_at_call 135; refine (first_any HL.out hh HO.out).mono ?_; rintro e w' ⟨rfl, n, rfl⟩))
  go_ret2
  exact ⟨rfl, n, rfl⟩
theorem got_slot (hL : Lay w) (hh : U64 h) (hs : 0 ≤ wSlot h) (o : OpAt 210 q 0 h to w) : Calls Tryz.prog 111 #[.pointer (some ⟨q, 0, none⟩)] w fun e w' => e = .returned (.tuple #[.int .i64 (wSlot h), .bool true]) ∧ ∃ n, w' = w.drewN n := by
  have HO := Lib.hid o
  have HL := Lib.hid hL
  clear o hL
  go_enter Tryz.func111, Tryz.ntmps111
  go_wp2_with fail
  refine (over_any HO.out).mono ?_
  rintro e w' ⟨rfl, rfl⟩
  go_wp2_with fail
  refine (first_any HL.out hh HO.out).mono ?_
  rintro e w' ⟨rfl, n, rfl⟩
  have HB := Lib.hid (show Below w.heap.size w (w.drewN n) from below_drewN' (Below.refl _ _) n)
  go_wp2_with fail
  refine (first_any (HL.out.below HB.out) hh (HO.out.below HB.out)).mono ?_
  rintro e w' ⟨rfl, j, rfl⟩
  go_wp2_with fail
  go_ret2
  exact ⟨rfl, _, rfl⟩
/-- A new memory. -/
def M0 : MS := ⟨0, fun _ => 0⟩
theorem new_fm (hL : Lay w) (hM : LayM w) : Calls Tryz.prog 30 #[] w fun e w' => ∃ p b, e = .returned (.pointer (some ⟨p, 0, none⟩)) ∧ FM p b 0 M0 w' ∧ Below w.heap.size w w' ∧ w.heap.size ≤ b ∧ b < p := by
  refine (new_some w).mono ?_
  rintro e w' ⟨p, b, rfl, hp, hb, h1, h2⟩
  have := hM.1
  have := hL.1
  exact ⟨p, b, rfl, ⟨⟨0, _, _, _, _, _, _, _, _, Nat.le_refl _, isMap_empty, hp, rfl, fun _ _ _ _ => rfl⟩, hL.below hb, hM.below hb, by omega, by omega⟩, hb, h1, h2⟩
end
end Go.Proofs.YtmjcbjcnmgleaaaGreatDoor
