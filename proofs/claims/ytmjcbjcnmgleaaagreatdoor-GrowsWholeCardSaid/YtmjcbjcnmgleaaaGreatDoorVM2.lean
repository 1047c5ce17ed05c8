/-
  Package frees over a memory of which each word is known: a step of a Pop and of a Push; condition: the tables as laid, the operation and the memory lie as they say.
  Package frees over a memory of which words, count of steps and last access are known: a step of a Pop and of a Push; condition: the tables as laid, the operation and the memory lie as they say.
-/
import Derived.Test.YtmjcbjcnmgleaaaGreatDoorVM1
import Derived.Test.YtmjcbjcnmgleaaaGreatDoorH1
import Derived.Test.YtmjcbjcnmgleaaaGreatDoorF4
namespace Go.Proofs.YtmjcbjcnmgleaaaGreatDoor
open Go.RowKit Go.Maps

/-- A slot's link. -/
def adS (s : Int) : Ad := if h : (Lit.int .i64 s).wf = true then adL s h else adF
theorem adS_eq {s : Int} (h : I64w s) : adS s = adL s h := dif_pos (show (Lit.int .i64 s).wf = true from h)
def swapW (o : OS) (V : Ad → Int) : OS × (Ad → Int) := if V adF = o.h then (⟨0, o.h, o.to⟩, setV V adF (nextW o.h o.to)) else (⟨1, o.h, o.to⟩, V)
def popW (o : OS) (V : Ad → Int) : OS × (Ad → Int) :=
  if o.nx = 1 then (⟨if wSlot (V adF) < 0 then 0 else 2, V adF, o.to⟩, V)
  else if o.nx = 2 then (⟨3, o.h, wSlot (V (adS (wSlot o.h)))⟩, V)
  else if o.nx = 3 then swapW o V
  else (o, V)
def pushW (o : OS) (V : Ad → Int) : OS × (Ad → Int) :=
  if o.nx = 1 then (⟨2, V adF, o.to⟩, V)
  else if o.nx = 2 then (⟨3, o.h, o.to⟩, setV V (adS o.to) (headW (wSlot o.h) 0))
  else if o.nx = 3 then swapW o V
  else (o, V)
theorem mayW : mayB adF.k adF.a adF.f = true := by decide
theorem casV_F (V : Ad → Int) (u : Int) : casV V adF u = decide (V adF = u) := by unfold casV; rw [mayW]; rfl
/-- What a step leaves: the operation, the memory. -/
def SteppedW (t : TypeId) (p b q st : Nat) (R : OS × (Ad → Int)) (w w' : World) : Prop := OpAt t q R.1.nx R.1.h R.1.to w' ∧ VM p b st R.2 w' ∧ Only3 p b q w w'
section
variable {p b q st : Nat} {o : OS} {V : Ad → Int} {w w' : World}
theorem read_stepW {t : TypeId} (ht : t ≠ 121) (hq : 1 < q) (F : VM p b st V w) (hs : st < 1000000) (ho : OpAt t q o.nx o.h o.to w) :
    ∀ X, Below w.heap.size w X → Calls Tryz.prog 142 #[.pointer (some ⟨q, 0, none⟩), .pointer (some ⟨p, 0, none⟩)] X fun e Y => e = .returned (.int .i64 2) ∧ OpAt t q o.nx (V adF) o.to Y ∧ VM p b (st + 1) V Y ∧ Only3 p b q X Y := by
  intro X hX
  obtain ⟨⟨n, D, ak, k, a, f, was, is, done, h1, h2, h3, h4⟩, hl, hm, hp, hb⟩ := F.below hX
  refine (read_any ht (by omega) (by omega) (ho.below hX) h3).mono ?_
  rintro e Y ⟨rfl, oY, mY, hY⟩
  rw [h4] at oY
  exact ⟨rfl, oY, ⟨⟨n, D, _, _, _, _, _, _, _, by omega, h2, by exact_mod_cast mY, h4⟩, hY.layV hp hb hq hl, hY.laymV hp hb hq hm, hp, hb⟩, hY⟩
theorem start_stepW (hq : 1 < q) (F : VM p b st V w) (hs : st < 1000000) (ho : OpAt 210 q o.nx o.h o.to w) :
    ∀ X, Below w.heap.size w X → Calls Tryz.prog 193 #[.pointer (some ⟨q, 0, none⟩), .pointer (some ⟨p, 0, none⟩)] X fun e Y => e = .returned (.int .i64 (if wSlot (V adF) < 0 then 0 else 2)) ∧ OpAt 210 q o.nx (V adF) o.to Y ∧ VM p b (st + 1) V Y ∧ Only3 p b q X Y := by
  intro X hX
  obtain ⟨⟨n, D, ak, k, a, f, was, is, done, h1, h2, h3, h4⟩, hl, hm, hp, hb⟩ := F.below hX
  refine (start_any (by omega) (by omega) hl (by omega) (by omega) (by omega) (ho.below hX) h3).mono ?_
  rintro e Y ⟨rfl, oY, mY, hY⟩
  rw [h4] at oY
  exact ⟨by rw [h4], oY, ⟨⟨n, D, _, _, _, _, _, _, _, by omega, h2, by exact_mod_cast mY, h4⟩, hY.layV hp hb hq hl, hY.laymV hp hb hq hm, hp, hb⟩, hY⟩
theorem look_stepW (hq : 1 < q) (F : VM p b st V w) (hs : st < 1000000) (hh : U64 o.h) (ho : OpAt 210 q o.nx o.h o.to w) :
    ∀ X, Below w.heap.size w X → Calls Tryz.prog 194 #[.pointer (some ⟨q, 0, none⟩), .pointer (some ⟨p, 0, none⟩)] X fun e Y => e = .returned (.int .i64 3) ∧ OpAt 210 q o.nx o.h (wSlot (V (adS (wSlot o.h)))) Y ∧ VM p b (st + 1) V Y ∧ Only3 p b q X Y := by
  intro X hX
  obtain ⟨⟨n, D, ak, k, a, f, was, is, done, h1, h2, h3, h4⟩, hl, hm, hp, hb⟩ := F.below hX
  refine (look_any (by omega) (by omega) hl (by omega) (by omega) (by omega) hh (ho.below hX) h3).mono ?_
  rintro e Y ⟨rfl, oY, mY, hY⟩
  rw [h4, ← adS_eq] at oY
  exact ⟨rfl, oY, ⟨⟨n, D, _, _, _, _, _, _, _, by omega, h2, by exact_mod_cast mY, h4⟩, hY.layV hp hb hq hl, hY.laymV hp hb hq hm, hp, hb⟩, hY⟩
theorem hang_stepW (hq : 1 < q) (F : VM p b st V w) (hs : st < 1000000) (hh : U64 o.h) (hto : I64w o.to) (ho : OpAt 198 q o.nx o.h o.to w) :
    ∀ X, Below w.heap.size w X → Calls Tryz.prog 143 #[.pointer (some ⟨q, 0, none⟩), .pointer (some ⟨p, 0, none⟩)] X fun e Y => e = .returned (.int .i64 3) ∧ OpAt 198 q o.nx o.h o.to Y ∧ VM p b (st + 1) (setV V (adS o.to) (headW (wSlot o.h) 0)) Y ∧ Only3 p b q X Y := by
  intro X hX
  obtain ⟨⟨n, D, ak, k, a, f, was, is, done, h1, h2, h3, h4⟩, hl, hm, hp, hb⟩ := F.below hX
  have e4 : valD D = V := funext h4
  refine (hang_any (by omega) (by omega) (by omega) hl hm (by omega) (by omega) hh hto (ho.below hX) h3).mono ?_
  rintro e Y ⟨rfl, oY, mY, hY⟩
  exact ⟨rfl, oY, ⟨⟨n + 1, _, _, _, _, _, _, _, _, by omega, isMap_store h2 _ _, by exact_mod_cast mY, fun y => by rw [valD_store h2, e4, adS_eq hto]⟩, hY.layV hp hb hq hl, hY.laymV hp hb hq hm, hp, hb⟩, hY⟩
theorem swap_stepW {t : TypeId} (ht : t ≠ 121) (hq : 1 < q) (F : VM p b st V w) (hs : st < 1000000) (hh : U64 o.h) (ho : OpAt t q o.nx o.h o.to w) :
    ∀ X, Below w.heap.size w X → Calls Tryz.prog 144 #[.pointer (some ⟨q, 0, none⟩), .pointer (some ⟨p, 0, none⟩)] X fun e Y => e = .returned (.int .i64 (swapW o V).1.nx) ∧ OpAt t q o.nx o.h o.to Y ∧ VM p b (st + 1) (swapW o V).2 Y ∧ Only3 p b q X Y := by
  intro X hX
  obtain ⟨⟨n, D, ak, k, a, f, was, is, done, h1, h2, h3, h4⟩, hl, hm, hp, hb⟩ := F.below hX
  have e4 : valD D = V := funext h4
  refine (swap_any ht (by omega) (by omega) (by omega) hl hm hh (ho.below hX) h3).mono ?_
  rintro e Y ⟨rfl, oY, mY, hY⟩
  have ec : casB D adF o.h = decide (V adF = o.h) := by
    unfold casB
    rw [mayW, h4]
    rfl
  by_cases hc : V adF = o.h
  · have hc' : casB D adF o.h = true := by rw [ec]; simpa using hc
    have ed : casD D adF o.h (nextW o.h o.to) = storeD D adF (nextW o.h o.to) := by
      rw [show casD D adF o.h (nextW o.h o.to) = putD D adF (nextW o.h o.to) from if_pos hc', show storeD D adF (nextW o.h o.to) = putD D adF (nextW o.h o.to) from if_pos mayW]
    rw [ed] at mY
    unfold swapW
    rw [if_pos hc, hc']
    exact ⟨rfl, oY, ⟨⟨n + 1, _, _, _, _, _, _, _, _, by omega, isMap_store h2 _ _, by exact_mod_cast mY, fun y => by rw [valD_store h2, e4]⟩, hY.layV hp hb hq hl, hY.laymV hp hb hq hm, hp, hb⟩, hY⟩
  · have hc' : casB D adF o.h = false := by rw [ec]; simpa using hc
    have ed : casD D adF o.h (nextW o.h o.to) = D := if_neg (by rw [hc']; simp)
    rw [ed] at mY
    unfold swapW
    rw [if_neg hc, hc']
    exact ⟨rfl, oY, ⟨⟨n + 1, _, _, _, _, _, _, _, _, by omega, h2, by exact_mod_cast mY, h4⟩, hY.layV hp hb hq hl, hY.laymV hp hb hq hm, hp, hb⟩, hY⟩
theorem swapW_op (o : OS) (V : Ad → Int) : (swapW o V).1.h = o.h ∧ (swapW o V).1.to = o.to := by unfold swapW; split <;> exact ⟨rfl, rfl⟩
/-- A step of a Pop. -/
theorem pop_stepW (hq : 1 < q) (F : VM p b st V w) (hs : st < 1000000) (hh : U64 o.h) (hnx : 0 ≤ o.nx ∧ o.nx ≤ 3) (ho : OpAt 210 q o.nx o.h o.to w) :
    Calls Tryz.prog 191 #[.pointer (some ⟨q, 0, none⟩), .pointer (some ⟨p, 0, none⟩)] w fun e w' => e = .returned (.bool ((popW o V).1.nx == 0)) ∧ SteppedW 210 p b q (st + cost o) (popW o V) w w' := by
  obtain ⟨hqp, hqb⟩ := F.ne (by decide) ho
  have hset : ∀ V' X v, VM p b (st + 1) V' X → VM p b (st + 1) V' (X.setCell ⟨q, 0, none⟩ v) := fun V' X v h => h.setQ hqp hqb hq 0 v
  obtain h | h | h | h : o.nx = 0 ∨ o.nx = 1 ∨ o.nx = 2 ∨ o.nx = 3 := by omega
  · have e : popW o V = (o, V) := by unfold popW; rw [if_neg (by omega), if_neg (by omega), if_neg (by omega)]
    have ec : cost o = 0 := by unfold cost; rw [if_pos h]
    rw [e, ec]
    have ho' := ho
    rw [h] at ho'
    refine (popStep_over _ ho').mono ?_
    rintro ee w' ⟨rfl, rfl⟩
    exact ⟨by simp [h], ho, F, Only3.refl _ _ _ _⟩
  · have e : popW o V = (⟨if wSlot (V adF) < 0 then 0 else 2, V adF, o.to⟩, V) := by unfold popW; rw [if_pos h]
    have ec : cost o = 1 := by unfold cost; rw [if_neg (by omega)]
    rw [e, ec]
    have hl := start_stepW hq F hs ho
    rw [h] at ho hl
    exact popStep_1 ho (fun X v => hset _ X v) hl
  · have e : popW o V = (⟨3, o.h, wSlot (V (adS (wSlot o.h)))⟩, V) := by unfold popW; rw [if_neg (by omega), if_pos h]
    have ec : cost o = 1 := by unfold cost; rw [if_neg (by omega)]
    rw [e, ec]
    have hl := look_stepW hq F hs hh ho
    rw [h] at ho hl
    exact popStep_2 ho (fun X v => hset _ X v) hl
  · have e : popW o V = swapW o V := by unfold popW; rw [if_neg (by omega), if_neg (by omega), if_pos h]
    have ec : cost o = 1 := by unfold cost; rw [if_neg (by omega)]
    rw [e, ec]
    have hl := swap_stepW (by decide) hq F hs hh ho
    rw [h] at ho hl
    refine (popStep_3 ho (fun X v => hset _ X v) hl).mono ?_
    rintro ee w' ⟨rfl, h1, h2, h3⟩
    exact ⟨rfl, by rw [(swapW_op o V).1, (swapW_op o V).2]; exact h1, h2, h3⟩
/-- A step of a Push. -/
theorem push_stepW (hq : 1 < q) (F : VM p b st V w) (hs : st < 1000000) (hh : U64 o.h) (hnx : 0 ≤ o.nx ∧ o.nx ≤ 3) (hto : o.nx = 2 → I64w o.to) (ho : OpAt 198 q o.nx o.h o.to w) :
    Calls Tryz.prog 83 #[.pointer (some ⟨q, 0, none⟩), .pointer (some ⟨p, 0, none⟩)] w fun e w' => e = .returned (.bool ((pushW o V).1.nx == 0)) ∧ SteppedW 198 p b q (st + cost o) (pushW o V) w w' := by
  obtain ⟨hqp, hqb⟩ := F.ne (by decide) ho
  have hset : ∀ V' X v, VM p b (st + 1) V' X → VM p b (st + 1) V' (X.setCell ⟨q, 0, none⟩ v) := fun V' X v h => h.setQ hqp hqb hq 0 v
  obtain h | h | h | h : o.nx = 0 ∨ o.nx = 1 ∨ o.nx = 2 ∨ o.nx = 3 := by omega
  · have e : pushW o V = (o, V) := by unfold pushW; rw [if_neg (by omega), if_neg (by omega), if_neg (by omega)]
    have ec : cost o = 0 := by unfold cost; rw [if_pos h]
    rw [e, ec]
    have ho' := ho
    rw [h] at ho'
    refine (pushStep_over _ ho').mono ?_
    rintro ee w' ⟨rfl, rfl⟩
    exact ⟨by simp [h], ho, F, Only3.refl _ _ _ _⟩
  · have e : pushW o V = (⟨2, V adF, o.to⟩, V) := by unfold pushW; rw [if_pos h]
    have ec : cost o = 1 := by unfold cost; rw [if_neg (by omega)]
    rw [e, ec]
    have hl := read_stepW (by decide) hq F hs ho
    rw [h] at ho hl
    exact pushStep_1 ho (fun X v => hset _ X v) hl
  · have e : pushW o V = (⟨3, o.h, o.to⟩, setV V (adS o.to) (headW (wSlot o.h) 0)) := by unfold pushW; rw [if_neg (by omega), if_pos h]
    have ec : cost o = 1 := by unfold cost; rw [if_neg (by omega)]
    rw [e, ec]
    have hl := hang_stepW hq F hs hh (hto h) ho
    rw [h] at ho hl
    exact pushStep_2 ho (fun X v => hset _ X v) hl
  · have e : pushW o V = swapW o V := by unfold pushW; rw [if_neg (by omega), if_neg (by omega), if_pos h]
    have ec : cost o = 1 := by unfold cost; rw [if_neg (by omega)]
    rw [e, ec]
    have hl := swap_stepW (by decide) hq F hs hh ho
    rw [h] at ho hl
    refine (pushStep_3 ho (fun X v => hset _ X v) hl).mono ?_
    rintro ee w' ⟨rfl, h1, h2, h3⟩
    exact ⟨rfl, by rw [(swapW_op o V).1, (swapW_op o V).2]; exact h1, h2, h3⟩
end
end Go.Proofs.YtmjcbjcnmgleaaaGreatDoor
namespace Go.Proofs.YtmjcbjcnmgleaaaGreatDoor
open Go.RowKit Go.Maps

def swapX (o : OS) (M : MV) : OS × MV := (⟨if M.V adF = o.h then 0 else 1, o.h, o.to⟩, csM M adF o.h (nextW o.h o.to))
def popX (o : OS) (M : MV) : OS × MV :=
  if o.nx = 1 then (⟨if wSlot (M.V adF) < 0 then 0 else 2, M.V adF, o.to⟩, ldM M adF)
  else if o.nx = 2 then (⟨3, o.h, wSlot (M.V (adS (wSlot o.h)))⟩, ldM M (adS (wSlot o.h)))
  else if o.nx = 3 then swapX o M
  else (o, M)
def pushX (o : OS) (M : MV) : OS × MV :=
  if o.nx = 1 then (⟨2, M.V adF, o.to⟩, ldM M adF)
  else if o.nx = 2 then (⟨3, o.h, o.to⟩, stM M (adS o.to) (headW (wSlot o.h) 0))
  else if o.nx = 3 then swapX o M
  else (o, M)
theorem csV_F (V : Ad → Int) (u v : Int) : csV V adF u v = if V adF = u then setV V adF v else V := by
  unfold csV
  rw [casV_F]
  by_cases h : V adF = u
  · rw [if_pos h, if_pos (by simpa using h)]
  · rw [if_neg h, if_neg (by simpa using h)]
theorem swapX_V (o : OS) (M : MV) : ((swapX o M).1, (swapX o M).2.V) = swapW o M.V := by
  unfold swapX swapW csM
  rw [csV_F]
  split <;> rfl
theorem popX_V (o : OS) (M : MV) : ((popX o M).1, (popX o M).2.V) = popW o M.V := by
  unfold popX popW
  split
  · rfl
  · split
    · rfl
    · split
      · exact swapX_V o M
      · rfl
theorem pushX_V (o : OS) (M : MV) : ((pushX o M).1, (pushX o M).2.V) = pushW o M.V := by
  unfold pushX pushW
  split
  · rfl
  · split
    · rfl
    · split
      · exact swapX_V o M
      · rfl
theorem OpAt.bq {t : TypeId} {q : Nat} {nx h to : Int} {w : World} (o : OpAt t q nx h to w) : Bq q t [.int .i64 nx, .int .u64 h, .int .i64 to] w := o
/-- What a step leaves: the operation, the memory. -/
def SteppedX (t : TypeId) (p b q : Nat) (R : OS × MV) (w w' : World) : Prop := OpAt t q R.1.nx R.1.h R.1.to w' ∧ VX p b R.2 w' ∧ Only3 p b q w w'
section
variable {p b q : Nat} {o : OS} {M : MV} {w w' : World}
theorem read_stepX {t : TypeId} (ht : t ≠ 121) (hq : 1 < q) (F : VX p b M w) (hs : M.s.st < 1000000) (ho : OpAt t q o.nx o.h o.to w) :
    ∀ X, Below w.heap.size w X → Calls Tryz.prog 142 #[.pointer (some ⟨q, 0, none⟩), .pointer (some ⟨p, 0, none⟩)] X fun e Y => e = .returned (.int .i64 2) ∧ OpAt t q o.nx (M.V adF) o.to Y ∧ VX p b (ldM M adF) Y ∧ Only3 p b q X Y := by
  intro X hX
  have h0 := F.st0
  obtain ⟨⟨n, D, h1, h2, h3, h4⟩, hl, hm, hp, hb⟩ := F.below hX
  refine (read_any ht h0 (by omega) (ho.below hX) h3).mono ?_
  rintro e Y ⟨rfl, oY, mY, hY⟩
  rw [h4] at oY mY
  exact ⟨rfl, oY, ⟨⟨n, D, by show (n : Int) ≤ M.s.st + 1; omega, h2, mY, h4⟩, hY.layV hp hb hq hl, hY.laymV hp hb hq hm, hp, hb⟩, hY⟩
theorem start_stepX (hq : 1 < q) (F : VX p b M w) (hs : M.s.st < 1000000) (ho : OpAt 210 q o.nx o.h o.to w) :
    ∀ X, Below w.heap.size w X → Calls Tryz.prog 193 #[.pointer (some ⟨q, 0, none⟩), .pointer (some ⟨p, 0, none⟩)] X fun e Y => e = .returned (.int .i64 (if wSlot (M.V adF) < 0 then 0 else 2)) ∧ OpAt 210 q o.nx (M.V adF) o.to Y ∧ VX p b (ldM M adF) Y ∧ Only3 p b q X Y := by
  intro X hX
  have h0 := F.st0
  obtain ⟨⟨n, D, h1, h2, h3, h4⟩, hl, hm, hp, hb⟩ := F.below hX
  refine (start_any h0 (by omega) hl (by omega) (by omega) (by omega) (ho.below hX) h3).mono ?_
  rintro e Y ⟨rfl, oY, mY, hY⟩
  rw [h4] at oY mY
  exact ⟨by rw [h4], oY, ⟨⟨n, D, by show (n : Int) ≤ M.s.st + 1; omega, h2, mY, h4⟩, hY.layV hp hb hq hl, hY.laymV hp hb hq hm, hp, hb⟩, hY⟩
theorem look_stepX (hq : 1 < q) (F : VX p b M w) (hs : M.s.st < 1000000) (hh : U64 o.h) (ho : OpAt 210 q o.nx o.h o.to w) :
    ∀ X, Below w.heap.size w X → Calls Tryz.prog 194 #[.pointer (some ⟨q, 0, none⟩), .pointer (some ⟨p, 0, none⟩)] X fun e Y => e = .returned (.int .i64 3) ∧ OpAt 210 q o.nx o.h (wSlot (M.V (adS (wSlot o.h)))) Y ∧ VX p b (ldM M (adS (wSlot o.h))) Y ∧ Only3 p b q X Y := by
  intro X hX
  have h0 := F.st0
  obtain ⟨⟨n, D, h1, h2, h3, h4⟩, hl, hm, hp, hb⟩ := F.below hX
  refine (look_any h0 (by omega) hl (by omega) (by omega) (by omega) hh (ho.below hX) h3).mono ?_
  rintro e Y ⟨rfl, oY, mY, hY⟩
  rw [h4] at oY mY
  rw [adS_eq (i64w_slot o.h)]
  exact ⟨rfl, oY, ⟨⟨n, D, by show (n : Int) ≤ M.s.st + 1; omega, h2, mY, h4⟩, hY.layV hp hb hq hl, hY.laymV hp hb hq hm, hp, hb⟩, hY⟩
theorem hang_stepX (hq : 1 < q) (F : VX p b M w) (hs : M.s.st < 1000000) (hh : U64 o.h) (hto : I64w o.to) (ho : OpAt 198 q o.nx o.h o.to w) :
    ∀ X, Below w.heap.size w X → Calls Tryz.prog 143 #[.pointer (some ⟨q, 0, none⟩), .pointer (some ⟨p, 0, none⟩)] X fun e Y => e = .returned (.int .i64 3) ∧ OpAt 198 q o.nx o.h o.to Y ∧ VX p b (stM M (adS o.to) (headW (wSlot o.h) 0)) Y ∧ Only3 p b q X Y := by
  intro X hX
  have h0 := F.st0
  obtain ⟨⟨n, D, h1, h2, h3, h4⟩, hl, hm, hp, hb⟩ := F.below hX
  refine (hang_any h0 (by omega) (by omega) hl hm (by omega) (by omega) hh hto (ho.below hX) h3).mono ?_
  rintro e Y ⟨rfl, oY, mY, hY⟩
  have hv' := rel_valD h2 h4 (adL o.to hto) (headW (wSlot o.h) 0)
  rw [h4, hv'] at mY
  rw [adS_eq hto]
  exact ⟨rfl, oY, ⟨⟨n + 1, _, by show ((n + 1 : Nat) : Int) ≤ M.s.st + 1; omega, h2.store _ _, mY, hv'⟩, hY.layV hp hb hq hl, hY.laymV hp hb hq hm, hp, hb⟩, hY⟩
theorem swap_stepX {t : TypeId} (ht : t ≠ 121) (hq : 1 < q) (F : VX p b M w) (hs : M.s.st < 1000000) (hh : U64 o.h) (ho : OpAt t q o.nx o.h o.to w) :
    ∀ X, Below w.heap.size w X → Calls Tryz.prog 144 #[.pointer (some ⟨q, 0, none⟩), .pointer (some ⟨p, 0, none⟩)] X fun e Y => e = .returned (.int .i64 (swapX o M).1.nx) ∧ OpAt t q o.nx o.h o.to Y ∧ VX p b (swapX o M).2 Y ∧ Only3 p b q X Y := by
  intro X hX
  have h0 := F.st0
  obtain ⟨⟨n, D, h1, h2, h3, h4⟩, hl, hm, hp, hb⟩ := F.below hX
  refine (swap_any ht h0 (by omega) (by omega) hl hm hh (ho.below hX) h3).mono ?_
  rintro e Y ⟨rfl, oY, mY, hY⟩
  have ec : casB D adF o.h = casV M.V adF o.h := by unfold casB casV; rw [h4]
  have hv' : ∀ y, valD (casD D adF o.h (nextW o.h o.to)) y = csV M.V adF o.h (nextW o.h o.to) y := by
    intro y
    unfold casD csV
    rw [ec]
    by_cases hc : casV M.V adF o.h = true
    · rw [if_pos hc, if_pos hc]
      have := rel_valD h2 h4 adF (nextW o.h o.to) y
      rw [show storeD D adF (nextW o.h o.to) = putD D adF (nextW o.h o.to) from if_pos mayW] at this
      exact this
    · rw [if_neg hc, if_neg hc]
      exact h4 y
  rw [ec] at mY ⊢
  rw [h4, hv'] at mY
  refine ⟨?_, oY, ⟨⟨n + 1, _, by show ((n + 1 : Nat) : Int) ≤ M.s.st + 1; omega, h2.cas _ _ _, mY, hv'⟩, hY.layV hp hb hq hl, hY.laymV hp hb hq hm, hp, hb⟩, hY⟩
  show _ = Ending.returned (.int .i64 (if M.V adF = o.h then 0 else 1))
  rw [casV_F]
  by_cases hc : M.V adF = o.h
  · rw [if_pos hc, if_pos (by simpa using hc)]
  · rw [if_neg hc, if_neg (by simpa using hc)]
/-- A step of a Pop. -/
theorem pop_stepX (hq : 1 < q) (F : VX p b M w) (hs : M.s.st < 1000000) (hh : U64 o.h) (hnx : 0 ≤ o.nx ∧ o.nx ≤ 3) (ho : OpAt 210 q o.nx o.h o.to w) :
    Calls Tryz.prog 191 #[.pointer (some ⟨q, 0, none⟩), .pointer (some ⟨p, 0, none⟩)] w fun e w' => e = .returned (.bool ((popX o M).1.nx == 0)) ∧ SteppedX 210 p b q (popX o M) w w' := by
  obtain ⟨hqp, hqb⟩ := F.ne (by decide) ho.bq
  have hset : ∀ M' X v, VX p b M' X → VX p b M' (X.setCell ⟨q, 0, none⟩ v) := fun M' X v h => h.setQ hqp hqb hq 0 v
  obtain h | h | h | h : o.nx = 0 ∨ o.nx = 1 ∨ o.nx = 2 ∨ o.nx = 3 := by omega
  · have e : popX o M = (o, M) := by unfold popX; rw [if_neg (by omega), if_neg (by omega), if_neg (by omega)]
    rw [e]
    have ho' := ho
    rw [h] at ho'
    refine (popStep_over _ ho').mono ?_
    rintro ee w' ⟨rfl, rfl⟩
    exact ⟨by simp [h], ho, F, Only3.refl _ _ _ _⟩
  · have e : popX o M = (⟨if wSlot (M.V adF) < 0 then 0 else 2, M.V adF, o.to⟩, ldM M adF) := by unfold popX; rw [if_pos h]
    rw [e]
    have hl := start_stepX hq F hs ho
    rw [h] at ho hl
    exact popStep_1 ho (fun X v => hset _ X v) hl
  · have e : popX o M = (⟨3, o.h, wSlot (M.V (adS (wSlot o.h)))⟩, ldM M (adS (wSlot o.h))) := by unfold popX; rw [if_neg (by omega), if_pos h]
    rw [e]
    have hl := look_stepX hq F hs hh ho
    rw [h] at ho hl
    exact popStep_2 ho (fun X v => hset _ X v) hl
  · have e : popX o M = swapX o M := by unfold popX; rw [if_neg (by omega), if_neg (by omega), if_pos h]
    rw [e]
    have hl := swap_stepX (by decide) hq F hs hh ho
    rw [h] at ho hl
    exact popStep_3 ho (fun X v => hset _ X v) hl
/-- A step of a Push. -/
theorem push_stepX (hq : 1 < q) (F : VX p b M w) (hs : M.s.st < 1000000) (hh : U64 o.h) (hnx : 0 ≤ o.nx ∧ o.nx ≤ 3) (hto : o.nx = 2 → I64w o.to) (ho : OpAt 198 q o.nx o.h o.to w) :
    Calls Tryz.prog 83 #[.pointer (some ⟨q, 0, none⟩), .pointer (some ⟨p, 0, none⟩)] w fun e w' => e = .returned (.bool ((pushX o M).1.nx == 0)) ∧ SteppedX 198 p b q (pushX o M) w w' := by
  obtain ⟨hqp, hqb⟩ := F.ne (by decide) ho.bq
  have hset : ∀ M' X v, VX p b M' X → VX p b M' (X.setCell ⟨q, 0, none⟩ v) := fun M' X v h => h.setQ hqp hqb hq 0 v
  obtain h | h | h | h : o.nx = 0 ∨ o.nx = 1 ∨ o.nx = 2 ∨ o.nx = 3 := by omega
  · have e : pushX o M = (o, M) := by unfold pushX; rw [if_neg (by omega), if_neg (by omega), if_neg (by omega)]
    rw [e]
    have ho' := ho
    rw [h] at ho'
    refine (pushStep_over _ ho').mono ?_
    rintro ee w' ⟨rfl, rfl⟩
    exact ⟨by simp [h], ho, F, Only3.refl _ _ _ _⟩
  · have e : pushX o M = (⟨2, M.V adF, o.to⟩, ldM M adF) := by unfold pushX; rw [if_pos h]
    rw [e]
    have hl := read_stepX (by decide) hq F hs ho
    rw [h] at ho hl
    exact pushStep_1 ho (fun X v => hset _ X v) hl
  · have e : pushX o M = (⟨3, o.h, o.to⟩, stM M (adS o.to) (headW (wSlot o.h) 0)) := by unfold pushX; rw [if_neg (by omega), if_pos h]
    rw [e]
    have hl := hang_stepX hq F hs hh (hto h) ho
    rw [h] at ho hl
    exact pushStep_2 ho (fun X v => hset _ X v) hl
  · have e : pushX o M = swapX o M := by unfold pushX; rw [if_neg (by omega), if_neg (by omega), if_pos h]
    rw [e]
    have hl := swap_stepX (by decide) hq F hs hh ho
    rw [h] at ho hl
    exact pushStep_3 ho (fun X v => hset _ X v) hl
end
end Go.Proofs.YtmjcbjcnmgleaaaGreatDoor
