/-
  A Give and a Take of the chapter in plain words, over a memory's words; no condition.
  Threads that give and take, in plain words: what each has of slots, the stack's chain, what holds between two steps; no condition.
  Threads that give and take, in plain words: what begins, and each step, keeps what holds between steps; no condition.
  Threads that give and take, in plain words: a Take's step keeps what holds between steps; so does a thread's; no condition.
  A Give and a Take alone, in plain words: in how many steps they end, and what they leave; no condition.
  Threads that give and take, in plain words: how it begins, how many steps are left to one alone, what all have at the end; no condition.
-/
import Derived.Test.YtjpanofkikfeoaaGreatDoorTB1
import Derived.Test.YtjpanofkikfeoaaGreatDoorBack
namespace Go.Proofs.YtjpanofkikfeoaaGreatDoor
open Go.RowKit Go.Maps

/-- A slot's word; the stack's head. -/
def adO : Ad := ⟨4, 0, 0, by decide, by decide, by decide⟩
def adS (s f : Int) : Ad := if h : (Lit.int .i64 s).wf = true ∧ (Lit.int .i64 f).wf = true then ⟨9, s, f, by decide, h.1, h.2⟩ else adO
theorem adO_at : adO.k = 4 ∧ adO.a = 0 ∧ adO.f = 0 := ⟨rfl, rfl, rfl⟩
theorem adS_at {s f : Int} (h : 0 ≤ s ∧ s < 256) (g : 0 ≤ f ∧ f < 8) : (adS s f).k = 9 ∧ (adS s f).a = s ∧ (adS s f).f = f := by
  unfold adS
  rw [dif_pos ⟨small64 (by omega) (by omega), small64 (by omega) (by omega)⟩]
  exact ⟨rfl, rfl, rfl⟩
theorem mayO : mayB adO.k adO.a adO.f = true := by decide
theorem mayS {s f : Int} (h : 0 ≤ s ∧ s < 256) (g : 0 ≤ f ∧ f < 8) : mayB (adS s f).k (adS s f).a (adS s f).f = true := by
  obtain ⟨h1, h2, h3⟩ := adS_at h g
  rw [h1, h2, h3]
  simp [mayB, atRoom, fieldRoom, h.1, h.2, g.1, g.2]
theorem neOS {s f : Int} (h : 0 ≤ s ∧ s < 256) (g : 0 ≤ f ∧ f < 8) : adO ≠ adS s f := fun e => by have := congrArg Ad.k e; rw [(adS_at h g).1] at this; exact absurd this (by decide)
theorem neSS {s f s' f' : Int} (h : 0 ≤ s ∧ s < 256) (g : 0 ≤ f ∧ f < 8) (h' : 0 ≤ s' ∧ s' < 256) (g' : 0 ≤ f' ∧ f' < 8) (n : s ≠ s' ∨ f ≠ f') : adS s f ≠ adS s' f' := fun e => by
  have e1 := congrArg Ad.a e
  have e2 := congrArg Ad.f e
  rw [(adS_at h g).2.1, (adS_at h' g').2.1] at e1
  rw [(adS_at h g).2.2, (adS_at h' g').2.2] at e2
  rcases n with n | n
  · exact n e1
  · exact n e2
theorem casV_O (V : Ad → Int) (u : Int) : casV V adO u = decide (V adO = u) := by unfold casV; rw [mayO]; rfl

/-- An entry: its slot, generation, mark, birth, epoch, era. -/
structure EP where
  s : Int
  g : Int
  k : Bool
  b : Int
  c : Int
  d : Int
deriving DecidableEq
def EP.zero : EP := ⟨0, 0, false, 0, 0, 0⟩
def EP.cells (e : EP) : List Value := [.int .i64 e.s, .int .u32 e.g, .bool e.k, .int .u64 e.b, .int .u64 e.c, .int .u64 e.d]
/-- Its numbers are of their kinds. -/
def EP.ok (e : EP) : Prop := (Lit.int .i64 e.s).wf = true ∧ U32 e.g ∧ U64 e.b ∧ U64 e.c ∧ U64 e.d
theorem EP.zero_ok : EP.zero.ok := ⟨by decide, ⟨by decide, by decide⟩, ⟨by decide, by decide⟩, ⟨by decide, by decide⟩, ⟨by decide, by decide⟩⟩
/-- Entries that may be given. -/
def mayE (l : List EP) : Prop := l ≠ [] ∧ (∀ e ∈ l, 0 ≤ e.s ∧ e.s < 256 ∧ e.k = false) ∧ (l.map EP.s).Nodup
instance (l : List EP) : Decidable (mayE l) := by unfold mayE; infer_instance
/-- The slot of an entry by its place. -/
def slA (l : List EP) (i : Nat) : Int := (l.getD i EP.zero).s
theorem slA_in {l : List EP} (h : mayE l) {i : Nat} (hi : i < l.length) : 0 ≤ slA l i ∧ slA l i < 256 := by
  unfold slA
  rw [List.getD_eq_getElem?_getD, List.getElem?_eq_getElem hi]
  have := h.2.1 _ (List.getElem_mem hi)
  exact ⟨this.1, this.2.1⟩
/-- An operation, as the chapter has it: its line (0: over), what a Take read, what a Give has, how many links are laid, the head as it was loaded, the slot that a Take is at, what is read of it. -/
structure OG where
  ln : Int
  got : List EP
  g : List EP
  i : Nat
  h : Int
  s : Int
  e : EP
def giveX (o : OG) (M : MV) : OG × MV :=
  if o.ln = 1 then ({ o with ln := if o.i + 2 = o.g.length then 2 else 1, i := o.i + 1 }, stM M (adS (slA o.g o.i) 2) (headW (slA o.g (o.i + 1)) 0))
  else if o.ln = 2 then ({ o with ln := 3, h := M.V adO }, ldM M adO)
  else if o.ln = 3 then ({ o with ln := 4 }, stM M (adS (slA o.g (o.g.length - 1)) 2) (headW (wSlot o.h) 0))
  else if o.ln = 4 then ({ o with ln := if casV M.V adO o.h = true then 0 else 2 }, csM M adO o.h (headW (slA o.g 0) (fld o.h 16 48 + 1)))
  else (o, M)
def takeX (o : OG) (M : MV) : OG × MV :=
  if o.ln = 1 then ({ o with ln := if wSlot (M.V adO) < 0 then 0 else 2, h := M.V adO }, ldM M adO)
  else if o.ln = 2 then (if casV M.V adO o.h = true then { o with ln := 3, s := wSlot o.h } else { o with ln := 1 }, csM M adO o.h (headW (-1) (fld o.h 16 48 + 1)))
  else if o.ln = 3 then ({ o with ln := 4, e := ⟨o.s, fld (M.V (adS o.s 0)) 3 32, false, 0, 0, 0⟩ }, ldM M (adS o.s 0))
  else if o.ln = 4 then ({ o with ln := 5, e := { o.e with b := M.V (adS o.s 1) } }, ldM M (adS o.s 1))
  else if o.ln = 5 then ({ o with ln := 6, e := { o.e with c := M.V (adS o.s 3) } }, ldM M (adS o.s 3))
  else if o.ln = 6 then ({ o with ln := 7, e := { o.e with d := M.V (adS o.s 4) }, got := o.got ++ [{ o.e with d := M.V (adS o.s 4) }] }, ldM M (adS o.s 4))
  else if o.ln = 7 then (if 0 ≤ wSlot (M.V (adS o.s 2)) ∧ o.got.length < 256 then { o with ln := 3, s := wSlot (M.V (adS o.s 2)) } else { o with ln := 0 }, ldM M (adS o.s 2))
  else (o, M)
def oX (o : OG) (M : MV) : OG × MV := if o.g = [] then takeX o M else giveX o M
/-- New ones. -/
def newG (l : List EP) : OG := ⟨if mayE l then (if l.length = 1 then 2 else 1) else 0, [], l, 0, 0, 0, EP.zero⟩
def newT : OG := ⟨1, [], [], 0, 0, 0, EP.zero⟩
/-- Its numbers are of their kinds. -/
structure ONum (o : OG) : Prop where
  h : U64 o.h
  ln : 0 ≤ o.ln ∧ o.ln ≤ 7
  e : o.e.ok
  got : ∀ x ∈ o.got, x.ok
  gv : o.g ≠ [] → o.got = [] ∧ (o.ln ≠ 0 → mayE o.g ∧ o.ln ≤ 4 ∧ (o.ln = 1 → o.i + 1 < o.g.length))
  tk : o.g = [] → o.i = 0 ∧ o.got.length ≤ 256 ∧ (3 ≤ o.ln → 0 ≤ o.s ∧ o.s < 256) ∧ (3 ≤ o.ln ∧ o.ln ≤ 6 → o.got.length < 256) ∧ (o.ln = 1 ∨ o.ln = 2 → o.got = []) ∧ (o.ln = 2 → 0 ≤ wSlot o.h)
theorem ONum.newT : ONum newT := ⟨u64_0', by simp [Go.Proofs.YtjpanofkikfeoaaGreatDoor.newT], EP.zero_ok, by simp [Go.Proofs.YtjpanofkikfeoaaGreatDoor.newT], fun h => absurd rfl h, fun _ => ⟨rfl, by simp [Go.Proofs.YtjpanofkikfeoaaGreatDoor.newT], fun h => by simp [Go.Proofs.YtjpanofkikfeoaaGreatDoor.newT] at h, fun h => by simp [Go.Proofs.YtjpanofkikfeoaaGreatDoor.newT] at h, fun _ => rfl, fun h => by simp [Go.Proofs.YtjpanofkikfeoaaGreatDoor.newT] at h⟩⟩
theorem ONum.newG (l : List EP) : ONum (newG l) := by
  unfold Go.Proofs.YtjpanofkikfeoaaGreatDoor.newG
  refine ⟨u64_0', ?_, EP.zero_ok, by simp, fun hl => ⟨rfl, ?_⟩, fun hl => ⟨rfl, by simp, ?_, ?_, fun _ => rfl, ?_⟩⟩
  · dsimp only
    repeat' split
    all_goals omega
  · dsimp only
    intro h
    by_cases hm : mayE l
    · rw [if_pos hm]
      have h0 : l.length ≠ 0 := fun e => hm.1 (List.length_eq_zero_iff.1 e)
      refine ⟨hm, by split <;> omega, fun h1 => ?_⟩
      split at h1 <;> omega
    · rw [if_neg hm] at h
      exact absurd rfl h
  · dsimp only at hl ⊢
    subst hl
    rw [if_neg (fun h : mayE [] => h.1 rfl)]
    omega
  · dsimp only at hl ⊢
    subst hl
    rw [if_neg (fun h : mayE [] => h.1 rfl)]
    omega
  · dsimp only at hl ⊢
    subst hl
    rw [if_neg (fun h : mayE [] => h.1 rfl)]
    omega
theorem fld_u32 (x : Int) : U32 (fld x 3 32) := ⟨fld_nonneg x 3 32, by have := fld_lt x 3 32; rw [p32] at this; exact this⟩
theorem slot_wf {s : Int} (h : 0 ≤ s ∧ s < 256) : (Lit.int .i64 s).wf = true := small64 (by omega) (by omega)
theorem ONum.step {o : OG} {M : MV} (ok : ONum o) (hu : ∀ x, U64 (M.V x)) : ONum (oX o M).1 := by
  obtain ⟨ln, got, g, i, h, s, e⟩ := o
  obtain ⟨h1, h2, h3, h4, h5, h6⟩ := ok
  simp only at h1 h2 h3 h4 h5 h6
  unfold oX
  dsimp only
  by_cases hg : g = []
  · rw [if_pos hg]
    obtain ⟨t1, t2, t3, t4, t5, t6⟩ := h6 hg
    have hG : g ≠ [] → False := fun k => k hg
    unfold takeX
    dsimp only
    have hw := wSlot_in
    obtain rfl | rfl | rfl | rfl | rfl | rfl | rfl | rfl : ln = 0 ∨ ln = 1 ∨ ln = 2 ∨ ln = 3 ∨ ln = 4 ∨ ln = 5 ∨ ln = 6 ∨ ln = 7 := by omega
    · exact ⟨h1, h2, h3, h4, h5, h6⟩
    · rw [if_pos rfl]
      have g0 := t5 (.inl rfl)
      refine ⟨hu _, by dsimp only; split <;> omega, h3, h4, fun k => (hG k).elim, fun _ => ⟨t1, t2, by dsimp only; split <;> omega, by dsimp only; split <;> omega, fun _ => g0, ?_⟩⟩
      dsimp only
      split
      · intro k; omega
      · intro _; omega
    · rw [if_neg (show ¬ (2 : Int) = 1 by decide), if_pos rfl]
      have g0 := t5 (.inr rfl)
      have s0 := t6 rfl
      dsimp only
      split
      · exact ⟨h1, by dsimp only; omega, h3, h4, fun k => (hG k).elim, fun _ => ⟨t1, t2, fun _ => ⟨s0, (hw h).2⟩, fun _ => by dsimp only; rw [g0]; decide, by dsimp only; omega, by dsimp only; omega⟩⟩
      · exact ⟨h1, by dsimp only; omega, h3, h4, fun k => (hG k).elim, fun _ => ⟨t1, t2, by dsimp only; omega, by dsimp only; omega, fun _ => g0, by dsimp only; omega⟩⟩
    · rw [if_neg (show ¬ (3 : Int) = 1 by decide), if_neg (show ¬ (3 : Int) = 2 by decide), if_pos rfl]
      have s0 := t3 (by decide)
      have l0 := t4 (by decide)
      exact ⟨h1, by dsimp only; omega, ⟨slot_wf s0, fld_u32 _, u64_0', u64_0', u64_0'⟩, h4, fun k => (hG k).elim, fun _ => ⟨t1, t2, fun _ => s0, fun _ => l0, by dsimp only; omega, by dsimp only; omega⟩⟩
    · rw [if_neg (show ¬ (4 : Int) = 1 by decide), if_neg (show ¬ (4 : Int) = 2 by decide), if_neg (show ¬ (4 : Int) = 3 by decide), if_pos rfl]
      have s0 := t3 (by decide)
      have l0 := t4 (by decide)
      exact ⟨h1, by dsimp only; omega, ⟨h3.1, h3.2.1, hu _, h3.2.2.2⟩, h4, fun k => (hG k).elim, fun _ => ⟨t1, t2, fun _ => s0, fun _ => l0, by dsimp only; omega, by dsimp only; omega⟩⟩
    · rw [if_neg (show ¬ (5 : Int) = 1 by decide), if_neg (show ¬ (5 : Int) = 2 by decide), if_neg (show ¬ (5 : Int) = 3 by decide), if_neg (show ¬ (5 : Int) = 4 by decide), if_pos rfl]
      have s0 := t3 (by decide)
      have l0 := t4 (by decide)
      exact ⟨h1, by dsimp only; omega, ⟨h3.1, h3.2.1, h3.2.2.1, hu _, h3.2.2.2.2⟩, h4, fun k => (hG k).elim, fun _ => ⟨t1, t2, fun _ => s0, fun _ => l0, by dsimp only; omega, by dsimp only; omega⟩⟩
    · rw [if_neg (show ¬ (6 : Int) = 1 by decide), if_neg (show ¬ (6 : Int) = 2 by decide), if_neg (show ¬ (6 : Int) = 3 by decide), if_neg (show ¬ (6 : Int) = 4 by decide), if_neg (show ¬ (6 : Int) = 5 by decide), if_pos rfl]
      have s0 := t3 (by decide)
      have l0 := t4 (by decide)
      have e0 : (EP.ok { e with d := M.V (adS s 4) }) := ⟨h3.1, h3.2.1, h3.2.2.1, h3.2.2.2.1, hu _⟩
      refine ⟨h1, by dsimp only; omega, e0, ?_, fun k => (hG k).elim, fun _ => ⟨t1, by simp; omega, fun _ => s0, by dsimp only; omega, by dsimp only; omega, by dsimp only; omega⟩⟩
      intro x hx
      simp only [List.mem_append, List.mem_singleton] at hx
      rcases hx with hx | rfl
      · exact h4 x hx
      · exact e0
    · rw [if_neg (show ¬ (7 : Int) = 1 by decide), if_neg (show ¬ (7 : Int) = 2 by decide), if_neg (show ¬ (7 : Int) = 3 by decide), if_neg (show ¬ (7 : Int) = 4 by decide), if_neg (show ¬ (7 : Int) = 5 by decide), if_neg (show ¬ (7 : Int) = 6 by decide), if_pos rfl]
      have s0 := t3 (by decide)
      dsimp only
      split
      · rename_i hc
        exact ⟨h1, by dsimp only; omega, h3, h4, fun k => (hG k).elim, fun _ => ⟨t1, t2, fun _ => ⟨hc.1, (hw _).2⟩, fun _ => hc.2, by dsimp only; omega, by dsimp only; omega⟩⟩
      · exact ⟨h1, by dsimp only; omega, h3, h4, fun k => (hG k).elim, fun _ => ⟨t1, t2, by dsimp only; omega, by dsimp only; omega, by dsimp only; omega, by dsimp only; omega⟩⟩
  · rw [if_neg hg]
    obtain ⟨a1, a2⟩ := h5 hg
    unfold giveX
    dsimp only
    have hT : ∀ {P : Prop}, g = [] → P := fun k => absurd k hg
    by_cases h0 : ln = 0
    · subst h0
      exact ⟨h1, h2, h3, h4, h5, h6⟩
    obtain ⟨m1, m2, m3⟩ := a2 h0
    obtain rfl | rfl | rfl | rfl : ln = 1 ∨ ln = 2 ∨ ln = 3 ∨ ln = 4 := by omega
    · rw [if_pos rfl]
      refine ⟨h1, by dsimp only; split <;> omega, h3, h4, fun _ => ⟨a1, fun _ => ⟨m1, by dsimp only; split <;> omega, ?_⟩⟩, fun k => hT k⟩
      dsimp only
      have := m3 rfl
      split
      · intro k; omega
      · intro _; omega
    · rw [if_neg (show ¬ (2 : Int) = 1 by decide), if_pos rfl]
      exact ⟨hu _, by dsimp only; omega, h3, h4, fun _ => ⟨a1, fun _ => ⟨m1, by dsimp only; omega, by dsimp only; omega⟩⟩, fun k => hT k⟩
    · rw [if_neg (show ¬ (3 : Int) = 1 by decide), if_neg (show ¬ (3 : Int) = 2 by decide), if_pos rfl]
      exact ⟨h1, by dsimp only; omega, h3, h4, fun _ => ⟨a1, fun _ => ⟨m1, by dsimp only; omega, by dsimp only; omega⟩⟩, fun k => hT k⟩
    · rw [if_neg (show ¬ (4 : Int) = 1 by decide), if_neg (show ¬ (4 : Int) = 2 by decide), if_neg (show ¬ (4 : Int) = 3 by decide), if_pos rfl]
      exact ⟨h1, by dsimp only; split <;> omega, h3, h4, fun _ => ⟨a1, fun _ => ⟨m1, by dsimp only; split <;> omega, by dsimp only; split <;> omega⟩⟩, fun k => hT k⟩
theorem oX_st (o : OG) (M : MV) : (oX o M).2.s.st ≤ M.s.st + 1 := by
  have l : ∀ x, (ldM M x).s.st ≤ M.s.st + 1 := fun x => by show M.s.st + 1 ≤ _; omega
  have s : ∀ x v, (stM M x v).s.st ≤ M.s.st + 1 := fun x v => by show M.s.st + 1 ≤ _; omega
  have c : ∀ x u v, (csM M x u v).s.st ≤ M.s.st + 1 := fun x u v => by show M.s.st + 1 ≤ _; omega
  unfold oX giveX takeX
  split
  · repeat' split
    all_goals first | exact l _ | exact s _ _ | exact c _ _ _ | (show M.s.st ≤ _; omega)
  · repeat' split
    all_goals first | exact l _ | exact s _ _ | exact c _ _ _ | (show M.s.st ≤ _; omega)
theorem oX_g (o : OG) (M : MV) : (oX o M).1.g = o.g := by
  unfold oX giveX takeX
  repeat' split
  all_goals rfl
end Go.Proofs.YtjpanofkikfeoaaGreatDoor
namespace Go.Proofs.YtjpanofkikfeoaaGreatDoor
open Go.RowKit Go.Maps

def slots (l : List EP) : List Int := l.map EP.s
theorem slots_app (l r : List EP) : slots (l ++ r) = slots l ++ slots r := List.map_append
theorem slots_len (l : List EP) : (slots l).length = l.length := List.length_map ..
theorem slA_mem {l : List EP} {i : Nat} (hi : i < l.length) : slA l i ∈ slots l := by
  unfold slA slots
  rw [List.getD_eq_getElem?_getD, List.getElem?_eq_getElem hi]
  exact List.mem_map.2 ⟨_, List.getElem_mem hi, rfl⟩
/-- Slots that hang behind one another, from a on. -/
def Chn (V : Ad → Int) : Int → List Int → Prop
  | a, [] => a < 0
  | a, x :: r => a = x ∧ 0 ≤ x ∧ x < 256 ∧ Chn V (wSlot (V (adS x 2))) r
theorem Chn.congr {V V' : Ad → Int} : ∀ {l : List Int} {a : Int}, Chn V a l → (∀ x ∈ l, V' (adS x 2) = V (adS x 2)) → Chn V' a l
  | [], _, h, _ => h
  | x :: r, _, ⟨h1, h2, h3, h4⟩, hv => ⟨h1, h2, h3, by
      rw [hv x (by simp)]
      exact Chn.congr h4 fun y hy => hv y (by simp [hy])⟩
theorem Chn.in_ {V : Ad → Int} : ∀ {l : List Int} {a : Int}, Chn V a l → ∀ x ∈ l, 0 ≤ x ∧ x < 256
  | [], _, _, x, hx => by cases hx
  | y :: r, _, ⟨_, h2, h3, h4⟩, x, hx => by
      rcases List.mem_cons.1 hx with rfl | hx
      · exact ⟨h2, h3⟩
      · exact Chn.in_ h4 x hx
theorem Chn.none {V : Ad → Int} {a : Int} {l : List Int} (h : Chn V a l) (h0 : a < 0) : l = [] := by
  cases l with
  | nil => rfl
  | cons x r => obtain ⟨h1, h2, _⟩ := h; omega
theorem Chn.some {V : Ad → Int} {a : Int} {l : List Int} (h : Chn V a l) (h0 : 0 ≤ a) : ∃ r, l = a :: r ∧ Chn V (wSlot (V (adS a 2))) r := by
  cases l with
  | nil => have : a < 0 := h; omega
  | cons x r => obtain ⟨rfl, _, _, h4⟩ := h; exact ⟨r, rfl, h4⟩
/-- A sum over five. -/
def c5 (f : Nat → Nat) : Nat := f 0 + f 1 + f 2 + f 3 + f 4
theorem c5_put {p : Nat} (h : p < 5) (f : Nat → Nat) (v : Nat) : c5 (fun q => if q = p then v else f q) + f p = c5 f + v := by
  obtain rfl | rfl | rfl | rfl | rfl : p = 0 ∨ p = 1 ∨ p = 2 ∨ p = 3 ∨ p = 4 := by omega
  all_goals (simp [c5]; omega)
theorem c5_two {p q : Nat} (h : p < 5) (g : q < 5) (n : p ≠ q) (f : Nat → Nat) : f p + f q ≤ c5 f := by
  unfold c5
  obtain rfl | rfl | rfl | rfl | rfl : p = 0 ∨ p = 1 ∨ p = 2 ∨ p = 3 ∨ p = 4 := by omega
  all_goals (obtain rfl | rfl | rfl | rfl | rfl : q = 0 ∨ q = 1 ∨ q = 2 ∨ q = 3 ∨ q = 4 := by omega)
  all_goals omega
theorem c5_one {p : Nat} (h : p < 5) (f : Nat → Nat) : f p ≤ c5 f := by
  unfold c5
  obtain rfl | rfl | rfl | rfl | rfl : p = 0 ∨ p = 1 ∨ p = 2 ∨ p = 3 ∨ p = 4 := by omega
  all_goals omega
def updF {α : Type} (A : Nat → α) (p : Nat) (a : α) : Nat → α := fun q => if q = p then a else A q
theorem updF_same {α : Type} (A : Nat → α) (p : Nat) (a : α) : updF A p a p = a := by simp [updF]
theorem updF_ne {α : Type} (A : Nat → α) {p q : Nat} (h : q ≠ p) (a : α) : updF A p a q = A q := by simp [updF, h]
/-- The entry of a slot, as the law makes it. -/
def entS (s : Int) : EP := ⟨s, s + 3, false, s + 1, s + 5, s + 9⟩
def isE (P : Int → Prop) (e : EP) : Prop := P e.s ∧ e = entS e.s
def Dat (P : Int → Prop) (V : Ad → Int) : Prop := ∀ s, P s → fld (V (adS s 0)) 3 32 = s + 3 ∧ V (adS s 1) = s + 1 ∧ V (adS s 3) = s + 5 ∧ V (adS s 4) = s + 9
/-- A thread: what it has, what is under way (line 0: nothing). -/
structure TS where
  held : List EP
  o : OG
def TS.own (t : TS) (c : List Int) : List Int := slots t.held ++ (if t.o.ln = 0 then [] else if t.o.g = [] then slots t.o.got ++ c else slots t.o.g)
structure GvOk (P : Int → Prop) (V : Ad → Int) (o : OG) : Prop where
  el : ∀ e ∈ o.g, isE P e
  l1 : o.ln = 1 → ∀ j, j < o.i → wSlot (V (adS (slA o.g j) 2)) = slA o.g (j + 1)
  l2 : 2 ≤ o.ln → ∀ j, j + 1 < o.g.length → wSlot (V (adS (slA o.g j) 2)) = slA o.g (j + 1)
  l4 : o.ln = 4 → wSlot (V (adS (slA o.g (o.g.length - 1)) 2)) = wSlot o.h
structure TkOk (P : Int → Prop) (V : Ad → Int) (o : OG) (c : List Int) : Prop where
  el : ∀ e ∈ o.got, isE P e
  c0 : o.ln ≤ 2 → c = []
  c3 : 3 ≤ o.ln ∧ o.ln ≤ 6 → P o.s ∧ ∃ r, c = o.s :: r ∧ Chn V (wSlot (V (adS o.s 2))) r
  c7 : o.ln = 7 → Chn V (wSlot (V (adS o.s 2))) c ∧ o.s ∈ slots o.got
  e4 : 4 ≤ o.ln ∧ o.ln ≤ 6 → o.e.s = o.s ∧ o.e.g = o.s + 3 ∧ o.e.k = false
  e5 : 5 ≤ o.ln ∧ o.ln ≤ 6 → o.e.b = o.s + 1
  e6 : o.ln = 6 → o.e.c = o.s + 5
structure TOk (P : Int → Prop) (V : Ad → Int) (t : TS) (c : List Int) : Prop where
  num : ONum t.o
  held : ∀ e ∈ t.held, isE P e
  gv : t.o.ln ≠ 0 → t.o.g ≠ [] → GvOk P V t.o
  tk : t.o.ln ≠ 0 → t.o.g = [] → TkOk P V t.o c
/-- What holds between two steps. -/
structure InvO (P : Int → Prop) [DecidablePred P] (V : Ad → Int) (A : Nat → TS) (C : Nat → List Int) (L : List Int) : Prop where
  stk : Chn V (wSlot (V adO)) L
  ok : ∀ p, p < 5 → TOk P V (A p) (C p)
  cnt : ∀ x, c5 (fun p => ((A p).own (C p)).count x) + L.count x = if P x then 1 else 0
  dat : Dat P V
  rng : ∀ x, P x → 0 ≤ x ∧ x < 256
section
variable {P : Int → Prop} {V V' : Ad → Int} {c : List Int} {t : TS}
theorem own_give (h0 : t.o.ln ≠ 0) (hg : t.o.g ≠ []) : t.own c = slots t.held ++ slots t.o.g := by unfold TS.own; rw [if_neg h0, if_neg hg]
theorem own_take (h0 : t.o.ln ≠ 0) (hg : t.o.g = []) : t.own c = slots t.held ++ (slots t.o.got ++ c) := by unfold TS.own; rw [if_neg h0, if_pos hg]
theorem own_idle (h0 : t.o.ln = 0) : t.own c = slots t.held := by unfold TS.own; rw [if_pos h0, List.append_nil]
theorem TOk.keep (h : TOk P V t c) (hv : ∀ x ∈ t.own c, V' (adS x 2) = V (adS x 2)) : TOk P V' t c := by
  refine ⟨h.num, h.held, fun h0 hg => ?_, fun h0 hg => ?_⟩
  · obtain ⟨a1, a2, a3, a4⟩ := h.gv h0 hg
    have hl := (h.num.gv hg).2 h0
    rw [own_give h0 hg] at hv
    have hv : ∀ j, j < t.o.g.length → V' (adS (slA t.o.g j) 2) = V (adS (slA t.o.g j) 2) := fun j hj => hv _ (List.mem_append_right _ (slA_mem hj))
    refine ⟨a1, fun k j hj => ?_, fun k j hj => ?_, fun k => ?_⟩
    · have := hl.2.2 k
      rw [hv j (by omega)]
      exact a2 k j hj
    · rw [hv j (by omega)]
      exact a3 k j hj
    · have h1 : t.o.g.length ≠ 0 := fun e => hg (List.length_eq_zero_iff.1 e)
      rw [hv _ (by omega)]
      exact a4 k
  · obtain ⟨a1, a2, a3, a4, a5, a6, a7⟩ := h.tk h0 hg
    rw [own_take h0 hg] at hv
    have hv : ∀ x, x ∈ slots t.o.got ∨ x ∈ c → V' (adS x 2) = V (adS x 2) := fun x hx => hv _ (List.mem_append_right _ (List.mem_append.2 hx))
    refine ⟨a1, a2, fun k => ?_, fun k => ?_, a5, a6, a7⟩
    · obtain ⟨g1, r, rfl, g2⟩ := a3 k
      refine ⟨g1, r, rfl, ?_⟩
      rw [hv t.o.s (.inr (by simp))]
      exact g2.congr fun y hy => hv y (.inr (by simp [hy]))
    · obtain ⟨g1, g2⟩ := a4 k
      rw [hv t.o.s (.inl g2)]
      exact ⟨g1.congr fun y hy => hv y (.inr hy), g2⟩
end
section
variable {P : Int → Prop} [DecidablePred P] {V V' : Ad → Int} {A : Nat → TS} {C : Nat → List Int} {L L' c c' : List Int} {t t' : TS} {p q : Nat} {x : Int}
theorem InvO.one (I : InvO P V A C L) (hp : p < 5) (x : Int) : ((A p).own (C p)).count x + L.count x ≤ 1 := by
  have h := I.cnt x
  have h1 := c5_one hp fun p => ((A p).own (C p)).count x
  split at h <;> omega
theorem InvO.apart (I : InvO P V A C L) (hp : p < 5) (hq : q < 5) (n : q ≠ p) (hx : x ∈ (A q).own (C q)) : x ∉ (A p).own (C p) := fun hy => by
  have h := I.cnt x
  have h1 := c5_two hq hp n fun p => ((A p).own (C p)).count x
  have h2 := List.count_pos_iff.2 hx
  have h3 := List.count_pos_iff.2 hy
  split at h <;> omega
theorem InvO.off (I : InvO P V A C L) (hp : p < 5) (hx : x ∈ L) : x ∉ (A p).own (C p) := fun hy => by
  have h := I.one hp x
  have h2 := List.count_pos_iff.2 hx
  have h3 := List.count_pos_iff.2 hy
  omega
theorem InvO.inP (I : InvO P V A C L) (hp : p < 5) (hx : x ∈ (A p).own (C p)) : P x := by
  have h := I.cnt x
  have h1 := c5_one hp fun p => ((A p).own (C p)).count x
  have h2 := List.count_pos_iff.2 hx
  split at h
  · assumption
  · omega
theorem InvO.stP (I : InvO P V A C L) (hx : x ∈ L) : P x := by
  have h := I.cnt x
  have h2 := List.count_pos_iff.2 hx
  split at h
  · assumption
  · omega
theorem InvO.nodup (I : InvO P V A C L) (hp : p < 5) : ((A p).own (C p)).Nodup := by
  rw [List.nodup_iff_count]
  intro x
  have := I.one hp x
  omega
/-- One thread's change. -/
theorem InvO.put (I : InvO P V A C L) (hp : p < 5) (hs : Chn V' (wSlot (V' adO)) L') (ht : TOk P V' t' c') (hv : ∀ x, P x → x ∉ (A p).own (C p) → V' (adS x 2) = V (adS x 2)) (hd : Dat P V')
    (hc : ∀ x, (t'.own c').count x + L'.count x = ((A p).own (C p)).count x + L.count x) : InvO P V' (updF A p t') (updF C p c') L' := by
  refine ⟨hs, fun q hq => ?_, fun x => ?_, hd, I.rng⟩
  · by_cases e : q = p
    · subst e
      rw [updF_same, updF_same]
      exact ht
    · rw [updF_ne _ e, updF_ne _ e]
      exact (I.ok q hq).keep fun x hx => hv x (I.inP hq hx) (I.apart hp hq e hx)
  · have e : (fun q => ((updF A p t' q).own (updF C p c' q)).count x) = fun q => if q = p then (t'.own c').count x else ((A q).own (C q)).count x := by
      funext q
      by_cases e : q = p
      · subst e; rw [updF_same, updF_same, if_pos rfl]
      · rw [updF_ne _ e, updF_ne _ e, if_neg e]
    rw [e]
    have h1 := c5_put hp (fun q => ((A q).own (C q)).count x) ((t'.own c').count x)
    have h2 := I.cnt x
    have h3 := hc x
    omega
end
end Go.Proofs.YtjpanofkikfeoaaGreatDoor
namespace Go.Proofs.YtjpanofkikfeoaaGreatDoor
open Go.RowKit Go.Maps

def sumN : Nat → (Nat → Nat) → Nat
  | 0, _ => 0
  | n + 1, f => sumN n f + f n
theorem sumN_zero {n : Nat} {f : Nat → Nat} (h : ∀ z, z < n → f z = 0) : sumN n f = 0 := by
  induction n with
  | zero => rfl
  | succ n ih => show sumN n f + f n = 0; rw [ih fun z hz => h z (by omega), h n (by omega)]
theorem sumN_le {n : Nat} {f : Nat → Nat} (h : ∀ z, z < n → f z ≤ 1) : sumN n f ≤ n := by
  induction n with
  | zero => exact Nat.le_refl _
  | succ n ih => have := ih fun z hz => h z (by omega); have := h n (by omega); show sumN n f + f n ≤ n + 1; omega
theorem sumN_ones {n : Nat} {f : Nat → Nat} (h : ∀ z, z < n → f z = 1) : sumN n f = n := by
  induction n with
  | zero => rfl
  | succ n ih => show sumN n f + f n = n + 1; rw [ih fun z hz => h z (by omega), h n (by omega)]
theorem sumN_congr {n : Nat} {f g : Nat → Nat} (h : ∀ z, z < n → f z = g z) : sumN n f = sumN n g := by
  induction n with
  | zero => rfl
  | succ n ih => show sumN n f + f n = sumN n g + g n; rw [ih fun z hz => h z (by omega), h n (by omega)]
theorem sumN_add (n : Nat) (f g : Nat → Nat) : sumN n (fun z => f z + g z) = sumN n f + sumN n g := by
  induction n with
  | zero => rfl
  | succ n ih => show sumN n _ + (f n + g n) = sumN n f + f n + (sumN n g + g n); rw [ih]; omega
theorem sumN_hit {n k : Nat} (hk : k < n) {f : Nat → Int} (hf : ∀ a b, f a = f b → a = b) : sumN n (fun z => if f k = f z then 1 else 0) = 1 := by
  induction n with
  | zero => omega
  | succ n ih =>
    show sumN n _ + _ = 1
    by_cases e : k = n
    · subst e
      rw [sumN_zero (fun z hz => if_neg fun h => by have := hf _ _ h; omega)]
      simp
    · rw [ih (by omega)]
      simp only
      rw [if_neg fun h => e (hf _ _ h)]
/-- A list's length, told by its counts. -/
theorem len_sum {N : Nat} {f : Nat → Int} (hf : ∀ a b, f a = f b → a = b) : ∀ {l : List Int}, (∀ x ∈ l, ∃ z, z < N ∧ x = f z) → l.length = sumN N (fun z => l.count (f z))
  | [], _ => by rw [sumN_zero (fun z _ => by simp)]; rfl
  | x :: l, h => by
    obtain ⟨k, hk, rfl⟩ := h x (by simp)
    have e : (fun z => (f k :: l).count (f z)) = fun z => l.count (f z) + (if f k = f z then 1 else 0) := by
      funext z
      rw [List.count_cons]
      simp
    rw [e, sumN_add, ← len_sum hf fun y hy => h y (by simp [hy]), sumN_hit hk hf]
    rfl
theorem cast_inj (a b : Nat) (h : (a : Int) = (b : Int)) : a = b := by omega
theorem nodup_len {l : List Int} {N : Nat} (h : l.Nodup) (hx : ∀ x ∈ l, 0 ≤ x ∧ x < N) : l.length ≤ N := by
  rw [len_sum (N := N) (f := fun z => (z : Int)) cast_inj fun x hx' => ⟨x.toNat, by have := hx x hx'; omega, by have := hx x hx'; omega⟩]
  exact sumN_le fun z _ => by
    have := List.nodup_iff_count.1 h (z : Int)
    exact this

theorem stM_V (M : MV) (x : Ad) (v : Int) : (stM M x v).V = setV M.V x v := rfl
theorem ldM_V (M : MV) (x : Ad) : (ldM M x).V = M.V := rfl
theorem csM_V (M : MV) (x : Ad) (u v : Int) : (csM M x u v).V = csV M.V x u v := rfl
/-- How many steps are left to one alone, at most. -/
def remO (o : OG) (V : Ad → Int) (L c : List Int) : Nat :=
  if o.g = [] then (if o.ln = 1 then (if wSlot (V adO) < 0 then 1 else 2 + 5 * L.length) else if o.ln = 2 then (if V adO = o.h then 1 + 5 * L.length else 3 + 5 * L.length) else if o.ln = 7 then 5 * c.length + 1 else 5 * c.length + 3 - o.ln.toNat)
  else (if o.ln = 1 then o.g.length - o.i + 2 else if o.ln = 2 then 3 else if o.ln = 3 then (if V adO = o.h then 2 else 5) else (if V adO = o.h then 1 else 4))
/-- What comes behind a step; what begins. -/
def TS.next (t : TS) (o' : OG) : TS := ⟨if o'.ln = 0 then t.held ++ o'.got else t.held, o'⟩
def TS.begin (t : TS) (give : Bool) : TS := if t.o.ln = 0 then (if give = true ∧ t.held ≠ [] then ⟨[], newG t.held⟩ else ⟨t.held, newT⟩) else t
theorem next_on {t : TS} {o' : OG} (h : o'.ln ≠ 0) : t.next o' = ⟨t.held, o'⟩ := by unfold TS.next; rw [if_neg h]
theorem next_end {t : TS} {o' : OG} (h : o'.ln = 0) : t.next o' = ⟨t.held ++ o'.got, o'⟩ := by unfold TS.next; rw [if_pos h]
theorem updF_self {α : Type} (A : Nat → α) (p : Nat) : updF A p (A p) = A := by
  funext q
  by_cases e : q = p
  · subst e; rw [updF_same]
  · rw [updF_ne _ e]
theorem slA_inj {l : List EP} (h : (l.map EP.s).Nodup) {i j : Nat} (hi : i < l.length) (hj : j < l.length) (e : slA l i = slA l j) : i = j := by
  unfold slA at e
  rw [List.getD_eq_getElem?_getD, List.getD_eq_getElem?_getD, List.getElem?_eq_getElem hi, List.getElem?_eq_getElem hj] at e
  simp only [Option.getD_some] at e
  have := (List.getElem_inj (xs := l.map EP.s) (i := i) (j := j) (h₀ := by simpa using hi) (h₁ := by simpa using hj) h).1 (by simpa using e)
  exact this
theorem slA_head {l : List EP} (h : l ≠ []) : ∃ e r, l = e :: r ∧ slA l 0 = e.s := by
  cases l with
  | nil => exact absurd rfl h
  | cons e r => exact ⟨e, r, rfl, rfl⟩
theorem chn_give {V : Ad → Int} {L : List Int} {b : Int} (hL : Chn V b L) : ∀ {g : List EP}, g ≠ [] → (∀ e ∈ g, 0 ≤ e.s ∧ e.s < 256) → (∀ j, j + 1 < g.length → wSlot (V (adS (slA g j) 2)) = slA g (j + 1)) → wSlot (V (adS (slA g (g.length - 1)) 2)) = b → Chn V (slA g 0) (slots g ++ L)
  | [], h, _, _, _ => absurd rfl h
  | [e], _, hr, _, h4 => ⟨rfl, (hr e (by simp)).1, (hr e (by simp)).2, by
      have : wSlot (V (adS e.s 2)) = b := h4
      rw [this]
      exact hL⟩
  | e :: f :: r, _, hr, hl, h4 => ⟨rfl, (hr e (by simp)).1, (hr e (by simp)).2, by
      have h1 : wSlot (V (adS e.s 2)) = f.s := hl 0 (by simp)
      rw [h1]
      exact chn_give hL (g := f :: r) (by simp) (fun x hx => hr x (by simp [hx])) (fun j hj => hl (j + 1) (by simpa using hj)) h4⟩
section
variable {P : Int → Prop} {V : Ad → Int}
theorem isE_in (hr : ∀ x, P x → 0 ≤ x ∧ x < 256) {e : EP} (h : isE P e) : 0 ≤ e.s ∧ e.s < 256 ∧ e.k = false := by
  have := hr _ h.1
  refine ⟨this.1, this.2, ?_⟩
  rw [h.2]
  rfl
theorem dat_set {s : Int} (h : Dat P V) (hr : ∀ x, P x → 0 ≤ x ∧ x < 256) (hs : 0 ≤ s ∧ s < 256) (v : Int) : Dat P (setV V (adS s 2) v) := fun z hz => by
  obtain ⟨h1, h2, h3, h4⟩ := h z hz
  have hz := hr z hz
  rw [setV_other (neSS hz (by decide) hs (by decide) (.inr (by decide))), setV_other (neSS hz (by decide) hs (by decide) (.inr (by decide))), setV_other (neSS hz (by decide) hs (by decide) (.inr (by decide))), setV_other (neSS hz (by decide) hs (by decide) (.inr (by decide)))]
  exact ⟨h1, h2, h3, h4⟩
theorem dat_head (h : Dat P V) (hr : ∀ x, P x → 0 ≤ x ∧ x < 256) (v : Int) : Dat P (setV V adO v) := fun z hz => by
  obtain ⟨h1, h2, h3, h4⟩ := h z hz
  have hz := hr z hz
  rw [setV_other (Ne.symm (neOS hz (by decide))), setV_other (Ne.symm (neOS hz (by decide))), setV_other (Ne.symm (neOS hz (by decide))), setV_other (Ne.symm (neOS hz (by decide)))]
  exact ⟨h1, h2, h3, h4⟩
end
section
variable {P : Int → Prop} [DecidablePred P] {V : Ad → Int} {A : Nat → TS} {C : Nat → List Int} {L : List Int} {p : Nat} {M : MV}
theorem InvO.may (I : InvO P V A C L) (hp : p < 5) (hn : (A p).held ≠ []) : mayE (A p).held := by
  refine ⟨hn, fun e he => isE_in I.rng ((I.ok p hp).held e he), ?_⟩
  have h := I.nodup hp
  unfold TS.own at h
  exact (List.nodup_append.1 h).1
theorem begin_ne (t : TS) (give : Bool) (h : t.o.ln = 0 → t.held ≠ [] → mayE t.held) : (t.begin give).o.ln ≠ 0 := by
  unfold TS.begin
  by_cases h0 : t.o.ln = 0
  · rw [if_pos h0]
    by_cases hg : give = true ∧ t.held ≠ []
    · rw [if_pos hg]
      show (newG t.held).ln ≠ 0
      unfold newG
      dsimp only
      rw [if_pos (h h0 hg.2)]
      split <;> decide
    · rw [if_neg hg]
      show newT.ln ≠ 0
      decide
  · rw [if_neg h0]
    exact h0
theorem InvO.begin (I : InvO P V A C L) (hp : p < 5) (give : Bool) : ∃ c', InvO P V (updF A p ((A p).begin give)) (updF C p c') L := by
  unfold TS.begin
  have K := I.ok p hp
  by_cases h0 : (A p).o.ln = 0
  · rw [if_pos h0]
    by_cases hg : give = true ∧ (A p).held ≠ []
    · rw [if_pos hg]
      have hm := I.may hp hg.2
      have hln : (newG (A p).held).ln = if (A p).held.length = 1 then 2 else 1 := by unfold newG; dsimp only; rw [if_pos hm]
      have hl0 : (newG (A p).held).ln ≠ 0 := by rw [hln]; split <;> decide
      refine ⟨[], I.put hp I.stk ⟨.newG _, by simp, fun _ _ => ⟨K.held, fun _ j hj => by simp [newG] at hj, fun h2 j hj => ?_, fun h4 => ?_⟩, fun _ h => absurd h hg.2⟩ (fun _ _ _ => rfl) I.dat fun x => ?_⟩
      · replace h2 : 2 ≤ (newG (A p).held).ln := h2
        rw [hln] at h2
        replace hj : j + 1 < (A p).held.length := hj
        split at h2 <;> omega
      · replace h4 : (newG (A p).held).ln = 4 := h4
        rw [hln] at h4
        split at h4 <;> omega
      · rw [own_give (t := ⟨[], newG (A p).held⟩) hl0 hg.2, own_idle h0]
        show (slots [] ++ slots (A p).held).count x + _ = _
        simp [slots]
    · rw [if_neg hg]
      refine ⟨[], I.put hp I.stk ⟨.newT, K.held, fun _ h => absurd rfl h, fun _ _ => ⟨by simp [newT], fun _ => rfl, fun h => by simp [newT] at h, fun h => by simp [newT] at h, fun h => by simp [newT] at h, fun h => by simp [newT] at h, fun h => by simp [newT] at h⟩⟩ (fun _ _ _ => rfl) I.dat fun x => ?_⟩
      rw [own_take (t := ⟨(A p).held, newT⟩) (show newT.ln ≠ 0 by decide) rfl, own_idle h0]
      simp [slots, newT]
  · rw [if_neg h0]
    exact ⟨C p, by rw [updF_self, updF_self]; exact I⟩
/-- A link of a Give's own is laid. -/
theorem InvO.laid (I : InvO P V A C L) (hp : p < 5) {s v : Int} {t' : TS} (hs : s ∈ (A p).own (C p)) (ht : TOk P (setV V (adS s 2) v) t' (C p)) (ho : t'.own (C p) = (A p).own (C p)) :
    InvO P (setV V (adS s 2) v) (updF A p t') (updF C p (C p)) L := by
  have hr := I.rng s (I.inP hp hs)
  refine I.put hp ?_ ht (fun x hx hn => setV_other (neSS (I.rng x hx) (by decide) hr (by decide) (.inl fun e => hn (e ▸ hs))) v) (dat_set I.dat I.rng hr v) fun x => by rw [ho]
  rw [setV_other (neOS hr (by decide))]
  exact I.stk.congr fun x hx => setV_other (neSS (I.rng x (I.stP hx)) (by decide) hr (by decide) (.inl fun e => I.off hp hx (e ▸ hs))) v
/-- Nothing is stored. -/
theorem InvO.read (I : InvO P V A C L) (hp : p < 5) {t' : TS} {c' : List Int} (ht : TOk P V t' c') (ho : ∀ x, (t'.own c').count x = ((A p).own (C p)).count x) : InvO P V (updF A p t') (updF C p c') L :=
  I.put hp I.stk ht (fun _ _ _ => rfl) I.dat fun x => by rw [ho]
set_option maxHeartbeats 1000000 in
theorem InvO.giveS (I : InvO P M.V A C L) (hp : p < 5) (h0 : (A p).o.ln ≠ 0) (hg : (A p).o.g ≠ []) (hu : ∀ x, U64 (M.V x)) : ∃ c' L', InvO P (oX (A p).o M).2.V (updF A p ((A p).next (oX (A p).o M).1)) (updF C p c') L' ∧ ((oX (A p).o M).1.ln ≠ 0 → remO (oX (A p).o M).1 (oX (A p).o M).2.V L' c' < remO (A p).o M.V L (C p)) := by
  have K := I.ok p hp
  have hn := K.num.step (M := M) hu
  obtain ⟨n1, n2⟩ := K.num.gv hg
  obtain ⟨m1, m2, m3⟩ := n2 h0
  obtain ⟨a1, a2, a3, a4⟩ := K.gv h0 hg
  have hown := own_give (c := C p) h0 hg
  have hmem : ∀ i, i < (A p).o.g.length → slA (A p).o.g i ∈ (A p).own (C p) := fun i hi => by rw [hown]; exact List.mem_append_right _ (slA_mem hi)
  have hlen : (A p).o.g.length ≠ 0 := fun e => hg (List.length_eq_zero_iff.1 e)
  have hsl : ∀ i, i < (A p).o.g.length → 0 ≤ slA (A p).o.g i ∧ slA (A p).o.g i < 256 := fun i hi => slA_in m1 hi
  have hin := fun {i j} hi hj => slA_inj (l := (A p).o.g) m1.2.2 (i := i) (j := j) hi hj
  have K2 := K.held
  revert hn
  unfold oX
  rw [if_neg hg]
  unfold giveX
  have hl := K.num.ln
  generalize hA : (A p).o.ln = ln at *
  obtain rfl | rfl | rfl | rfl : ln = 1 ∨ ln = 2 ∨ ln = 3 ∨ ln = 4 := by omega
  · rw [if_pos rfl]
    intro hn
    have h3 := m3 rfl
    dsimp only at hn ⊢
    have hl2 : (if (A p).o.i + 2 = (A p).o.g.length then (2 : Int) else 1) ≠ 0 := by split <;> decide
    rw [next_on (show (OG.ln _) ≠ 0 from hl2)]
    have key : ∀ j, j < (A p).o.i + 1 → wSlot (setV M.V (adS (slA (A p).o.g (A p).o.i) 2) (headW (slA (A p).o.g ((A p).o.i + 1)) 0) (adS (slA (A p).o.g j) 2)) = slA (A p).o.g (j + 1) := fun j hj => by
      by_cases e : j = (A p).o.i
      · subst e
        rw [setV_same (mayS (hsl _ (by omega)) (by decide)), head_slot _ _ (by have := hsl _ h3; omega) (hsl _ h3).2]
      · rw [setV_other (neSS (hsl j (by omega)) (by decide) (hsl _ (by omega)) (by decide) (.inl fun k => e (hin (by omega) (by omega) k)))]
        exact a2 rfl j (by omega)
    refine ⟨C p, L, ?_, (by
      intro _
      unfold remO
      by_cases e : (A p).o.i + 2 = (A p).o.g.length
      · simp [hg, hA, e]; omega
      · simp [hg, hA, e]; omega)⟩
    refine I.laid hp (hmem _ (by omega)) ⟨hn, K2, fun _ _ => ⟨a1, fun _ => key, fun k j hj => ?_, fun k => ?_⟩, fun _ k => absurd k hg⟩ ?_
    · dsimp only at k hj ⊢
      exact key j (by split at k <;> omega)
    · dsimp only at k
      split at k <;> omega
    · rw [hown]
      exact own_give (t := ⟨(A p).held, _⟩) hl2 hg
  · rw [if_neg (show ¬ (2 : Int) = 1 by decide), if_pos rfl]
    intro hn
    rw [next_on (show ((3 : Int)) ≠ 0 by decide)]
    refine ⟨C p, L, ?_, (by
      intro _
      unfold remO
      simp [hg, hA, ldM_V])⟩
    refine I.read hp ⟨hn, K2, fun _ _ => ⟨a1, (by dsimp only; intro k; omega), fun _ => a3 (by decide), (by dsimp only; intro k; omega)⟩, fun _ k => absurd k hg⟩ fun x => ?_
    rw [hown]
    exact congrArg _ (own_give (t := ⟨(A p).held, _⟩) (show ((3 : Int)) ≠ 0 by decide) hg)
  · rw [if_neg (show ¬ (3 : Int) = 1 by decide), if_neg (show ¬ (3 : Int) = 2 by decide), if_pos rfl]
    intro hn
    rw [next_on (show ((4 : Int)) ≠ 0 by decide)]
    refine ⟨C p, L, ?_, (by
      intro _
      unfold remO
      have e : setV M.V (adS (slA (A p).o.g ((A p).o.g.length - 1)) 2) (headW (wSlot (A p).o.h) 0) adO = M.V adO := setV_other (neOS (hsl _ (by omega)) (by decide)) _
      simp only [stM_V, hA, e, if_neg hg]
      by_cases e2 : M.V adO = (A p).o.h
      · simp [e2]
      · simp [e2])⟩
    refine I.laid hp (hmem _ (by omega)) ⟨hn, K2, fun _ _ => ⟨a1, (by dsimp only; intro k; omega), fun _ j hj => ?_, fun _ => ?_⟩, fun _ k => absurd k hg⟩ ?_
    · dsimp only at hj ⊢
      rw [setV_other (neSS (hsl j (by omega)) (by decide) (hsl _ (by omega)) (by decide) (.inl fun k => by have := hin (by omega) (by omega) k; omega))]
      exact a3 (by decide) j hj
    · have := wSlot_in (A p).o.h
      show wSlot (setV M.V _ _ _) = _
      rw [setV_same (mayS (hsl _ (by omega)) (by decide)), head_slot _ _ this.1 this.2]
    · rw [hown]
      exact own_give (t := ⟨(A p).held, _⟩) (show ((4 : Int)) ≠ 0 by decide) hg
  · rw [if_neg (show ¬ (4 : Int) = 1 by decide), if_neg (show ¬ (4 : Int) = 2 by decide), if_neg (show ¬ (4 : Int) = 3 by decide), if_pos rfl]
    intro hn
    by_cases hc : casV M.V adO (A p).o.h = true
    · have hh : M.V adO = (A p).o.h := by rw [casV_O] at hc; exact of_decide_eq_true hc
      have e1 : (csM M adO (A p).o.h (headW (slA (A p).o.g 0) (fld (A p).o.h 16 48 + 1))).V = setV M.V adO (headW (slA (A p).o.g 0) (fld (A p).o.h 16 48 + 1)) := by show csV _ _ _ _ = _; unfold csV; rw [if_pos hc]
      dsimp only at hn ⊢
      simp only [if_pos hc] at hn ⊢
      rw [e1, next_end (show ((0 : Int)) = 0 from rfl)]
      refine ⟨[], slots (A p).o.g ++ L, ?_, (fun k => absurd rfl k)⟩
      refine I.put hp ?_ ⟨hn, ?_, fun k => absurd rfl k, fun k => absurd rfl k⟩ (fun x hx _ => setV_other (Ne.symm (neOS (I.rng x hx) (by decide))) _) (dat_head I.dat I.rng _) fun x => ?_
      · rw [setV_same mayO, head_slot _ _ (by have := hsl 0 (by omega); omega) (hsl 0 (by omega)).2]
        have hch := chn_give (b := wSlot (M.V adO)) I.stk hg (fun e he => ⟨(m1.2.1 e he).1, (m1.2.1 e he).2.1⟩) (a3 (by decide)) (by rw [a4 rfl, hh])
        exact hch.congr fun x hx => setV_other (Ne.symm (neOS (hch.in_ x hx) (by decide))) _
      · show ∀ e ∈ (A p).held ++ (A p).o.got, _
        rw [n1, List.append_nil]
        exact K2
      · rw [hown, own_idle (t := ⟨(A p).held ++ _, _⟩) rfl]
        show (slots ((A p).held ++ (A p).o.got)).count x + _ = _
        rw [n1, List.append_nil, List.count_append, List.count_append]
        omega
    · have e1 : (csM M adO (A p).o.h (headW (slA (A p).o.g 0) (fld (A p).o.h 16 48 + 1))).V = M.V := by show csV _ _ _ _ = _; unfold csV; rw [if_neg hc]
      dsimp only at hn ⊢
      simp only [if_neg hc] at hn ⊢
      rw [e1, next_on (show ((2 : Int)) ≠ 0 by decide)]
      refine ⟨C p, L, ?_, (by
      intro _
      unfold remO
      have e : ¬ M.V adO = (A p).o.h := fun k => hc (by rw [casV_O]; exact decide_eq_true k)
      simp [hg, hA, e])⟩
      refine I.read hp ⟨hn, K2, fun _ _ => ⟨a1, (by dsimp only; intro k; omega), fun _ => a3 (by decide), (by dsimp only; intro k; omega)⟩, fun _ k => absurd k hg⟩ fun x => ?_
      rw [hown]
      exact congrArg _ (own_give (t := ⟨(A p).held, _⟩) (show ((2 : Int)) ≠ 0 by decide) hg)
end
end Go.Proofs.YtjpanofkikfeoaaGreatDoor
namespace Go.Proofs.YtjpanofkikfeoaaGreatDoor
open Go.RowKit Go.Maps

section
variable {P : Int → Prop} [DecidablePred P] {V : Ad → Int} {A : Nat → TS} {C : Nat → List Int} {L : List Int} {p : Nat} {M : MV}
theorem InvO.got_len (I : InvO P V A C L) (hp : p < 5) (h0 : (A p).o.ln ≠ 0) (hg : (A p).o.g = []) : (A p).o.got.length + (C p).length ≤ 256 := by
  have h := I.nodup hp
  rw [own_take h0 hg] at h
  have h2 := (List.nodup_append.1 h).2.1
  have := nodup_len (N := 256) h2 fun x hx => I.rng x (I.inP hp (by rw [own_take h0 hg]; exact List.mem_append_right _ hx))
  rw [List.length_append, slots_len] at this
  exact this
theorem count3 (a b : List Int) (s : Int) (r : List Int) (x : Int) : (a ++ ((b ++ [s]) ++ r)).count x = (a ++ (b ++ (s :: r))).count x := by simp
set_option maxHeartbeats 1000000 in
theorem InvO.takeS (I : InvO P M.V A C L) (hp : p < 5) (h0 : (A p).o.ln ≠ 0) (hg : (A p).o.g = []) (hu : ∀ x, U64 (M.V x)) : ∃ c' L', InvO P (oX (A p).o M).2.V (updF A p ((A p).next (oX (A p).o M).1)) (updF C p c') L' ∧ ((oX (A p).o M).1.ln ≠ 0 → remO (oX (A p).o M).1 (oX (A p).o M).2.V L' c' < remO (A p).o M.V L (C p)) := by
  have K := I.ok p hp
  have hn := K.num.step (M := M) hu
  obtain ⟨n1, n2, n3, n4, n5, n6⟩ := K.num.tk hg
  obtain ⟨a1, a2, a3, a4, a5, a6, a7⟩ := K.tk h0 hg
  have hown := own_take (c := C p) h0 hg
  have hgl := I.got_len hp h0 hg
  have K2 := K.held
  have hng : ∀ {Q : Prop}, (A p).o.g ≠ [] → Q := fun k => absurd hg k
  have hmc : ∀ x ∈ C p, P x := fun x hx => I.inP hp (by rw [hown]; exact List.mem_append_right _ (List.mem_append_right _ hx))
  revert hn
  unfold oX
  rw [if_pos hg]
  unfold takeX
  have hl := K.num.ln
  generalize hA : (A p).o.ln = ln at *
  obtain rfl | rfl | rfl | rfl | rfl | rfl | rfl : ln = 1 ∨ ln = 2 ∨ ln = 3 ∨ ln = 4 ∨ ln = 5 ∨ ln = 6 ∨ ln = 7 := by omega
  · rw [if_pos rfl]
    have g0 := n5 (.inl rfl)
    have c0 := a2 (by decide)
    intro hn
    dsimp only at hn ⊢
    by_cases hneg : wSlot (M.V adO) < 0
    · simp only [if_pos hneg] at hn ⊢
      rw [next_end (show ((0 : Int)) = 0 from rfl)]
      refine ⟨[], L, ?_, (fun k => absurd rfl k)⟩
      refine I.read hp ⟨hn, ?_, fun k => absurd rfl k, fun k => absurd rfl k⟩ fun x => ?_
      · show ∀ e ∈ (A p).held ++ (A p).o.got, _
        rw [g0, List.append_nil]
        exact K2
      · rw [hown, own_idle (t := ⟨(A p).held ++ _, _⟩) rfl, g0, c0]
        simp [slots]
    · simp only [if_neg hneg] at hn ⊢
      rw [next_on (show ((2 : Int)) ≠ 0 by decide)]
      refine ⟨[], L, ?_, (by
      intro _
      unfold remO
      simp [hg, hA, ldM_V, hneg])⟩
      refine I.read hp ⟨hn, K2, fun _ k => hng k, fun _ _ => ⟨a1, fun _ => rfl, (by dsimp only; intro k; omega), (by dsimp only; intro k; omega), (by dsimp only; intro k; omega), (by dsimp only; intro k; omega), (by dsimp only; intro k; omega)⟩⟩ fun x => ?_
      rw [hown, c0]
      exact congrArg _ (own_take (t := ⟨(A p).held, _⟩) (show ((2 : Int)) ≠ 0 by decide) hg)
  · rw [if_neg (show ¬ (2 : Int) = 1 by decide), if_pos rfl]
    have g0 := n5 (.inr rfl)
    have c0 := a2 (by decide)
    have s0 := n6 rfl
    intro hn
    by_cases hc : casV M.V adO (A p).o.h = true
    · have hh : M.V adO = (A p).o.h := by rw [casV_O] at hc; exact of_decide_eq_true hc
      have hstk := I.stk
      rw [hh] at hstk
      obtain ⟨r, hLr, hch⟩ := hstk.some s0
      have e1 : (csM M adO (A p).o.h (headW (-1) (fld (A p).o.h 16 48 + 1))).V = setV M.V adO (headW (-1) (fld (A p).o.h 16 48 + 1)) := by show csV _ _ _ _ = _; unfold csV; rw [if_pos hc]
      dsimp only at hn ⊢
      simp only [if_pos hc] at hn ⊢
      rw [e1, next_on (show ((3 : Int)) ≠ 0 by decide)]
      refine ⟨L, [], ?_, (by
      intro _
      unfold remO
      simp [hg, hA, hh])⟩
      refine I.put hp ?_ ⟨hn, K2, fun _ k => hng k, fun _ _ => ⟨a1, (by dsimp only; intro k; omega), fun _ => ⟨I.stP (by rw [hLr]; simp), r, hLr, ?_⟩, (by dsimp only; intro k; omega), (by dsimp only; intro k; omega), (by dsimp only; intro k; omega), (by dsimp only; intro k; omega)⟩⟩ (fun x hx _ => setV_other (Ne.symm (neOS (I.rng x hx) (by decide))) _) (dat_head I.dat I.rng _) fun x => ?_
      · rw [setV_same mayO, head_slot _ _ (by decide) (by decide)]
        show (-1 : Int) < 0
        decide
      · have hin := hstk.in_
        rw [hLr] at hin
        dsimp only
        rw [setV_other (Ne.symm (neOS (hin _ (by simp)) (by decide)))]
        exact hch.congr fun x hx => setV_other (Ne.symm (neOS (hin x (by simp [hx])) (by decide))) _
      · rw [hown, c0]
        unfold TS.own
        dsimp only
        rw [if_neg (show ¬ (3 : Int) = 0 by decide), if_pos hg]
        rw [g0]
        simp [slots, List.count_append]
    · have e1 : (csM M adO (A p).o.h (headW (-1) (fld (A p).o.h 16 48 + 1))).V = M.V := by show csV _ _ _ _ = _; unfold csV; rw [if_neg hc]
      dsimp only at hn ⊢
      simp only [if_neg hc] at hn ⊢
      rw [e1, next_on (show ((1 : Int)) ≠ 0 by decide)]
      refine ⟨C p, L, ?_, (by
      intro _
      unfold remO
      have e : ¬ M.V adO = (A p).o.h := fun k => hc (by rw [casV_O]; exact decide_eq_true k)
      simp [hg, hA, e]
      split <;> omega)⟩
      refine I.read hp ⟨hn, K2, fun _ k => hng k, fun _ _ => ⟨a1, fun _ => c0, (by dsimp only; intro k; omega), (by dsimp only; intro k; omega), (by dsimp only; intro k; omega), (by dsimp only; intro k; omega), (by dsimp only; intro k; omega)⟩⟩ fun x => ?_
      rw [hown]
      exact congrArg _ (own_take (t := ⟨(A p).held, _⟩) (show ((1 : Int)) ≠ 0 by decide) hg)
  · rw [if_neg (show ¬ (3 : Int) = 1 by decide), if_neg (show ¬ (3 : Int) = 2 by decide), if_pos rfl]
    obtain ⟨hP, r, hr, hch⟩ := a3 (by decide)
    intro hn
    dsimp only at hn ⊢
    rw [next_on (show ((4 : Int)) ≠ 0 by decide)]
    refine ⟨C p, L, ?_, (by
      intro _
      unfold remO
      simp [hg, hA, hr]; omega)⟩
    refine I.read hp ⟨hn, K2, fun _ k => hng k, fun _ _ => ⟨a1, (by dsimp only; intro k; omega), fun _ => ⟨hP, r, hr, hch⟩, (by dsimp only; intro k; omega), fun _ => ⟨rfl, (I.dat _ hP).1, rfl⟩, (by dsimp only; intro k; omega), (by dsimp only; intro k; omega)⟩⟩ fun x => ?_
    rw [hown]
    exact congrArg _ (own_take (t := ⟨(A p).held, _⟩) (show ((4 : Int)) ≠ 0 by decide) hg)
  · rw [if_neg (show ¬ (4 : Int) = 1 by decide), if_neg (show ¬ (4 : Int) = 2 by decide), if_neg (show ¬ (4 : Int) = 3 by decide), if_pos rfl]
    obtain ⟨hP, r, hr, hch⟩ := a3 (by decide)
    intro hn
    dsimp only at hn ⊢
    rw [next_on (show ((5 : Int)) ≠ 0 by decide)]
    refine ⟨C p, L, ?_, (by
      intro _
      unfold remO
      simp [hg, hA, hr]; omega)⟩
    refine I.read hp ⟨hn, K2, fun _ k => hng k, fun _ _ => ⟨a1, (by dsimp only; intro k; omega), fun _ => ⟨hP, r, hr, hch⟩, (by dsimp only; intro k; omega), fun _ => a5 (by decide), fun _ => (I.dat _ hP).2.1, (by dsimp only; intro k; omega)⟩⟩ fun x => ?_
    rw [hown]
    exact congrArg _ (own_take (t := ⟨(A p).held, _⟩) (show ((5 : Int)) ≠ 0 by decide) hg)
  · rw [if_neg (show ¬ (5 : Int) = 1 by decide), if_neg (show ¬ (5 : Int) = 2 by decide), if_neg (show ¬ (5 : Int) = 3 by decide), if_neg (show ¬ (5 : Int) = 4 by decide), if_pos rfl]
    obtain ⟨hP, r, hr, hch⟩ := a3 (by decide)
    intro hn
    dsimp only at hn ⊢
    rw [next_on (show ((6 : Int)) ≠ 0 by decide)]
    refine ⟨C p, L, ?_, (by
      intro _
      unfold remO
      simp [hg, hA, hr]; omega)⟩
    refine I.read hp ⟨hn, K2, fun _ k => hng k, fun _ _ => ⟨a1, (by dsimp only; intro k; omega), fun _ => ⟨hP, r, hr, hch⟩, (by dsimp only; intro k; omega), fun _ => a5 (by decide), fun _ => a6 (by decide), fun _ => (I.dat _ hP).2.2.1⟩⟩ fun x => ?_
    rw [hown]
    exact congrArg _ (own_take (t := ⟨(A p).held, _⟩) (show ((6 : Int)) ≠ 0 by decide) hg)
  · rw [if_neg (show ¬ (6 : Int) = 1 by decide), if_neg (show ¬ (6 : Int) = 2 by decide), if_neg (show ¬ (6 : Int) = 3 by decide), if_neg (show ¬ (6 : Int) = 4 by decide), if_neg (show ¬ (6 : Int) = 5 by decide), if_pos rfl]
    obtain ⟨hP, r, hr, hch⟩ := a3 (by decide)
    obtain ⟨e1, e2, e3⟩ := a5 (by decide)
    have e4 := a6 (by decide)
    have e5 := a7 rfl
    have e6 := (I.dat _ hP).2.2.2
    have hE : ({ (A p).o.e with d := M.V (adS (A p).o.s 4) } : EP) = entS (A p).o.s := by
      unfold entS
      rw [← e1] at e2 e4 e5 e6
      rw [← e1]
      show EP.mk _ _ _ _ _ _ = _
      rw [e2, e3, e4, e5, e6]
    intro hn
    dsimp only at hn ⊢
    rw [next_on (show ((7 : Int)) ≠ 0 by decide)]
    rw [hE] at hn ⊢
    refine ⟨r, L, ?_, (by
      intro _
      unfold remO
      simp [hg, hA, hr]; omega)⟩
    refine I.read hp ⟨hn, K2, fun _ k => hng k, fun _ _ => ⟨?_, (by dsimp only; intro k; omega), (by dsimp only; intro k; omega), fun _ => ⟨hch, ?_⟩, (by dsimp only; intro k; omega), (by dsimp only; intro k; omega), (by dsimp only; intro k; omega)⟩⟩ fun x => ?_
    · intro e he
      rcases List.mem_append.1 he with he | he
      · exact a1 e he
      · obtain rfl : e = entS (A p).o.s := by simpa using he
        exact ⟨hP, rfl⟩
    · show (A p).o.s ∈ slots ((A p).o.got ++ [entS (A p).o.s])
      rw [slots_app]
      exact List.mem_append_right _ (by simp [slots, entS])
    · rw [hown, hr]
      unfold TS.own
      dsimp only
      rw [if_neg (show ¬ (7 : Int) = 0 by decide), if_pos hg, slots_app]
      exact count3 _ _ _ _ x
  · rw [if_neg (show ¬ (7 : Int) = 1 by decide), if_neg (show ¬ (7 : Int) = 2 by decide), if_neg (show ¬ (7 : Int) = 3 by decide), if_neg (show ¬ (7 : Int) = 4 by decide), if_neg (show ¬ (7 : Int) = 5 by decide), if_neg (show ¬ (7 : Int) = 6 by decide), if_pos rfl]
    obtain ⟨hch, hmem⟩ := a4 rfl
    intro hn
    dsimp only at hn ⊢
    by_cases h1 : 0 ≤ wSlot (M.V (adS (A p).o.s 2))
    · obtain ⟨r, hr, hch2⟩ := hch.some h1
      have hlt : (A p).o.got.length < 256 := by rw [hr] at hgl; simp at hgl; omega
      simp only [if_pos (And.intro h1 hlt)] at hn ⊢
      rw [next_on (show ((3 : Int)) ≠ 0 by decide)]
      refine ⟨C p, L, ?_, (by
      intro _
      unfold remO
      simp [hg, hA])⟩
      refine I.read hp ⟨hn, K2, fun _ k => hng k, fun _ _ => ⟨a1, (by dsimp only; intro k; omega), fun _ => ⟨hmc _ (by rw [hr]; simp), r, hr, hch2⟩, (by dsimp only; intro k; omega), (by dsimp only; intro k; omega), (by dsimp only; intro k; omega), (by dsimp only; intro k; omega)⟩⟩ fun x => ?_
      rw [hown]
      exact congrArg _ (own_take (t := ⟨(A p).held, _⟩) (show ((3 : Int)) ≠ 0 by decide) hg)
    · have c0 := hch.none (by omega)
      simp only [if_neg (fun k : 0 ≤ wSlot (M.V (adS (A p).o.s 2)) ∧ (A p).o.got.length < 256 => h1 k.1)] at hn ⊢
      rw [next_end (show ((0 : Int)) = 0 from rfl)]
      refine ⟨[], L, ?_, (fun k => absurd rfl k)⟩
      refine I.read hp ⟨hn, ?_, fun k => absurd rfl k, fun k => absurd rfl k⟩ fun x => ?_
      · intro e he
        rcases List.mem_append.1 he with he | he
        · exact K2 e he
        · exact a1 e he
      · rw [hown, own_idle (t := ⟨(A p).held ++ _, _⟩) rfl, c0]
        show (slots ((A p).held ++ (A p).o.got)).count x = _
        rw [slots_app, List.append_nil]
/-- A thread's step. -/
theorem InvO.step (I : InvO P M.V A C L) (hp : p < 5) (h0 : (A p).o.ln ≠ 0) (hu : ∀ x, U64 (M.V x)) : ∃ c' L', InvO P (oX (A p).o M).2.V (updF A p ((A p).next (oX (A p).o M).1)) (updF C p c') L' ∧ ((oX (A p).o M).1.ln ≠ 0 → remO (oX (A p).o M).1 (oX (A p).o M).2.V L' c' < remO (A p).o M.V L (C p)) := by
  by_cases hg : (A p).o.g = []
  · exact I.takeS hp h0 hg hu
  · exact I.giveS hp h0 hg hu
theorem InvO.acted (I : InvO P M.V A C L) (hp : p < 5) (give : Bool) (hu : ∀ x, U64 (M.V x)) :
    ∃ C' L', InvO P (oX ((A p).begin give).o M).2.V (updF A p (((A p).begin give).next (oX ((A p).begin give).o M).1)) C' L' := by
  obtain ⟨c1, I1⟩ := I.begin hp give
  have hb := begin_ne (A p) give fun _ hn => I.may hp hn
  obtain ⟨c2, L2, I2, _⟩ := I1.step hp (by rw [updF_same]; exact hb) hu
  rw [updF_same] at I2
  refine ⟨updF (updF C p c1) p c2, L2, ?_⟩
  have e : ∀ t, updF (updF A p ((A p).begin give)) p t = updF A p t := fun t => by
    funext q
    by_cases h : q = p
    · subst h; rw [updF_same, updF_same]
    · rw [updF_ne _ h, updF_ne _ h, updF_ne _ h]
  rw [e] at I2
  exact I2
end
end Go.Proofs.YtjpanofkikfeoaaGreatDoor
namespace Go.Proofs.YtjpanofkikfeoaaGreatDoor
open Go.RowKit Go.Maps

/-- It ends in just so many steps. -/
inductive EndsO : OG → MV → Nat → OG → MV → Prop
  | one {o : OG} {M : MV} (h : (oX o M).1.ln = 0) : EndsO o M 1 (oX o M).1 (oX o M).2
  | more {o : OG} {M : MV} {n : Nat} {o' : OG} {M' : MV} (h : (oX o M).1.ln ≠ 0) (k : EndsO (oX o M).1 (oX o M).2 n o' M') : EndsO o M (n + 1) o' M'
theorem EndsO.last {o o1 : OG} {M M1 : MV} (h : oX o M = (o1, M1)) (h0 : o1.ln = 0) : EndsO o M 1 o1 M1 := by
  have := EndsO.one (o := o) (M := M) (by rw [h]; exact h0)
  rw [h] at this
  exact this
theorem EndsO.step {o o' o1 : OG} {M M' M1 : MV} {n : Nat} (h : oX o M = (o1, M1)) (h0 : o1.ln ≠ 0) (k : EndsO o1 M1 n o' M') : EndsO o M (n + 1) o' M' := by
  refine .more (by rw [h]; exact h0) ?_
  rw [h]
  exact k
theorem EndsO.st {o o' : OG} {M M' : MV} {n : Nat} (h : EndsO o M n o' M') : M'.s.st ≤ M.s.st + n := by
  induction h with
  | @one o M h => have := oX_st o M; push_cast; omega
  | @more o M n o' M' h k ih => have := oX_st o M; push_cast; omega
theorem EndsO.pos {o o' : OG} {M M' : MV} {n : Nat} (h : EndsO o M n o' M') : 1 ≤ n := by cases h <;> omega
theorem EndsO.over {o o' : OG} {M M' : MV} {n : Nat} (h : EndsO o M n o' M') : o'.ln = 0 := by
  induction h with
  | one h => exact h
  | more _ _ ih => exact ih
theorem EndsO.g {o o' : OG} {M M' : MV} {n : Nat} (h : EndsO o M n o' M') : o'.g = o.g := by
  induction h with
  | one h => exact oX_g _ _
  | more _ _ ih => exact ih.trans (oX_g _ _)
theorem nz1 : (1 : Int) ≠ 0 := by decide
theorem nz2 : (2 : Int) ≠ 0 := by decide
theorem nz3 : (3 : Int) ≠ 0 := by decide
theorem nz4 : (4 : Int) ≠ 0 := by decide
theorem nz5 : (5 : Int) ≠ 0 := by decide
theorem nz6 : (6 : Int) ≠ 0 := by decide
theorem nz7 : (7 : Int) ≠ 0 := by decide
section
variable {P : Int → Prop} {V : Ad → Int} {M : MV} {h s : Int} {e : EP} {got g : List EP} {i : Nat}
theorem tX_eq (o : OG) (M : MV) (hg : o.g = []) : oX o M = takeX o M := if_pos hg
theorem gX_eq (o : OG) (M : MV) (hg : o.g ≠ []) : oX o M = giveX o M := if_neg hg
/-- What is taken is read, slot by slot. -/
theorem read_run : ∀ (r : List Int) (s : Int) (got : List EP) (e : EP) (M : MV), Dat P M.V → (∀ x ∈ s :: r, P x) → Chn M.V (wSlot (M.V (adS s 2))) r → got.length + r.length < 256 →
    ∃ o' M', EndsO ⟨3, got, [], 0, h, s, e⟩ M (5 * (r.length + 1)) o' M' ∧ M'.V = M.V ∧ o'.got = got ++ (s :: r).map entS
  | r, s, got, e, M, hd, hP, hch, hl => by
    obtain ⟨d0, d1, d3, d4⟩ := hd s (hP s (by simp))
    let e3 : EP := ⟨s, fld (M.V (adS s 0)) 3 32, false, 0, 0, 0⟩
    let e4 : EP := { e3 with b := M.V (adS s 1) }
    let e5 : EP := { e4 with c := M.V (adS s 3) }
    let e6 : EP := { e5 with d := M.V (adS s 4) }
    have hE : e6 = entS s := by
      show EP.mk s (fld (M.V (adS s 0)) 3 32) false (M.V (adS s 1)) (M.V (adS s 3)) (M.V (adS s 4)) = _
      rw [d0, d1, d3, d4]
      rfl
    have k3 : oX ⟨3, got, [], 0, h, s, e⟩ M = (⟨4, got, [], 0, h, s, e3⟩, ldM M (adS s 0)) := by rw [tX_eq _ _ rfl]; unfold takeX; rfl
    have k4 : oX ⟨4, got, [], 0, h, s, e3⟩ (ldM M (adS s 0)) = (⟨5, got, [], 0, h, s, e4⟩, ldM (ldM M (adS s 0)) (adS s 1)) := by rw [tX_eq _ _ rfl]; unfold takeX; rfl
    have k5 : oX ⟨5, got, [], 0, h, s, e4⟩ (ldM (ldM M (adS s 0)) (adS s 1)) = (⟨6, got, [], 0, h, s, e5⟩, ldM (ldM (ldM M (adS s 0)) (adS s 1)) (adS s 3)) := by rw [tX_eq _ _ rfl]; unfold takeX; rfl
    have k6 : oX ⟨6, got, [], 0, h, s, e5⟩ (ldM (ldM (ldM M (adS s 0)) (adS s 1)) (adS s 3)) = (⟨7, got ++ [e6], [], 0, h, s, e6⟩, ldM (ldM (ldM (ldM M (adS s 0)) (adS s 1)) (adS s 3)) (adS s 4)) := by rw [tX_eq _ _ rfl]; unfold takeX; rfl
    generalize hM4 : ldM (ldM (ldM (ldM M (adS s 0)) (adS s 1)) (adS s 3)) (adS s 4) = M4 at k6
    have hV : M4.V = M.V := by rw [← hM4]; rfl
    have k7 : oX ⟨7, got ++ [e6], [], 0, h, s, e6⟩ M4 = (if 0 ≤ wSlot (M4.V (adS s 2)) ∧ (got ++ [e6]).length < 256 then ⟨3, got ++ [e6], [], 0, h, wSlot (M4.V (adS s 2)), e6⟩ else ⟨0, got ++ [e6], [], 0, h, s, e6⟩, ldM M4 (adS s 2)) := by rw [tX_eq _ _ rfl]; unfold takeX; rfl
    match r, hP, hch, hl with
    | [], _, hch, _ =>
      have hneg : wSlot (M.V (adS s 2)) < 0 := hch
      rw [if_neg (by rw [hV]; intro k; omega)] at k7
      refine ⟨_, _, EndsO.step k3 nz4 (EndsO.step k4 nz5 (EndsO.step k5 nz6 (EndsO.step k6 nz7 (EndsO.last k7 rfl)))), hV, ?_⟩
      rw [hE]
      rfl
    | x :: r, hP, hch, hl =>
      obtain ⟨hx, hx0, _, hch2⟩ := hch
      rw [List.length_cons] at hl
      rw [if_pos ⟨by rw [hV, hx]; exact hx0, by rw [List.length_append]; simp; omega⟩, hV, hx] at k7
      obtain ⟨o', M', g1, g2, g3⟩ := read_run r x (got ++ [e6]) e6 (ldM M4 (adS s 2)) (by show Dat P M4.V; rw [hV]; exact hd) (fun y hy => hP y (List.mem_cons_of_mem _ hy)) (by show Chn M4.V (wSlot (M4.V _)) r; rw [hV]; exact hch2) (by rw [List.length_append]; simp; omega)
      refine ⟨o', M', ?_, g2.trans hV, ?_⟩
      · have e5 : 5 * ((x :: r).length + 1) = 5 * (r.length + 1) + 1 + 1 + 1 + 1 + 1 := by rw [List.length_cons]; omega
        rw [e5]
        exact EndsO.step k3 nz4 (EndsO.step k4 nz5 (EndsO.step k5 nz6 (EndsO.step k6 nz7 (EndsO.step k7 nz3 g1))))
      · rw [g3, hE]
        simp
theorem take_none (hs : wSlot (M.V adO) < 0) : ∃ o' M', EndsO newT M 1 o' M' ∧ M'.V = M.V ∧ o'.got = [] := by
  refine ⟨_, _, EndsO.last (o1 := ⟨0, [], [], 0, M.V adO, 0, EP.zero⟩) (M1 := ldM M adO) ?_ rfl, rfl, rfl⟩
  rw [tX_eq _ _ rfl]
  unfold takeX newT
  dsimp only
  rw [if_pos rfl, if_pos hs]
/-- A Take alone. -/
theorem take_alone {x : Int} {r : List Int} (hd : Dat P M.V) (hP : ∀ y ∈ x :: r, P y) (hr : ∀ y, P y → 0 ≤ y ∧ y < 256) (hch : Chn M.V (wSlot (M.V adO)) (x :: r)) (hl : r.length < 256) :
    ∃ o' M' v, EndsO newT M (5 * (r.length + 1) + 2) o' M' ∧ M'.V = setV M.V adO (headW (-1) v) ∧ o'.got = (x :: r).map entS := by
  obtain ⟨hx, hx0, hx1, hch2⟩ := hch
  have k1 : oX newT M = (⟨2, [], [], 0, M.V adO, 0, EP.zero⟩, ldM M adO) := by
    rw [tX_eq _ _ rfl]
    unfold takeX newT
    dsimp only
    rw [if_pos rfl, if_neg (by rw [hx]; omega)]
  have hc : casV (ldM M adO).V adO (M.V adO) = true := by rw [casV_O]; exact decide_eq_true rfl
  have k2 : oX ⟨2, [], [], 0, M.V adO, 0, EP.zero⟩ (ldM M adO) = (⟨3, [], [], 0, M.V adO, x, EP.zero⟩, csM (ldM M adO) adO (M.V adO) (headW (-1) (fld (M.V adO) 16 48 + 1))) := by
    rw [tX_eq _ _ rfl]
    unfold takeX
    dsimp only
    rw [if_neg (show ¬ (2 : Int) = 1 by decide), if_pos rfl, if_pos hc, hx]
  have hV : (csM (ldM M adO) adO (M.V adO) (headW (-1) (fld (M.V adO) 16 48 + 1))).V = setV M.V adO (headW (-1) (fld (M.V adO) 16 48 + 1)) := by show csV _ _ _ _ = _; unfold csV; rw [if_pos hc]; rfl
  have hsame : ∀ y f, P y → 0 ≤ f ∧ f < 8 → setV M.V adO (headW (-1) (fld (M.V adO) 16 48 + 1)) (adS y f) = M.V (adS y f) := fun y f hy hf => setV_other (Ne.symm (neOS (hr y hy) hf)) _
  have hPx := hP x (by simp)
  obtain ⟨o', M', g1, g2, g3⟩ := read_run (h := M.V adO) (P := P) r x [] EP.zero _ (by rw [hV]; exact dat_head hd hr _) hP (by
    rw [hV, hsame x 2 hPx (by decide)]
    exact hch2.congr fun y hy => hsame y 2 (hP y (List.mem_cons_of_mem _ hy)) (by decide)) (by simpa using hl)
  refine ⟨o', M', _, ?_, g2.trans hV, by rw [g3]; rfl⟩
  exact EndsO.step k1 nz2 (EndsO.step k2 nz3 g1)
/-- A Give's last three lines alone. -/
theorem give_end (hg : g ≠ []) (hm : mayE g) (hl : ∀ j, j + 1 < g.length → wSlot (M.V (adS (slA g j) 2)) = slA g (j + 1)) {L : List Int} (hL : Chn M.V (wSlot (M.V adO)) L) (hn : ∀ x ∈ L, x ∉ slots g) :
    ∃ o' M', EndsO ⟨2, [], g, i, h, s, e⟩ M 3 o' M' ∧ (∀ x f, 0 ≤ x ∧ x < 256 → 0 ≤ f ∧ f < 8 → f ≠ 2 → M'.V (adS x f) = M.V (adS x f)) ∧ Chn M'.V (wSlot (M'.V adO)) (slots g ++ L) := by
  have hlen : g.length ≠ 0 := fun e => hg (List.length_eq_zero_iff.1 e)
  have hsl : ∀ j, j < g.length → 0 ≤ slA g j ∧ slA g j < 256 := fun j hj => slA_in hm hj
  have hw := wSlot_in (M.V adO)
  let v1 := headW (wSlot (M.V adO)) 0
  let M2 := stM (ldM M adO) (adS (slA g (g.length - 1)) 2) v1
  have k2 : oX ⟨2, [], g, i, h, s, e⟩ M = (⟨3, [], g, i, M.V adO, s, e⟩, ldM M adO) := by rw [gX_eq _ _ hg]; unfold giveX; rfl
  have k3 : oX ⟨3, [], g, i, M.V adO, s, e⟩ (ldM M adO) = (⟨4, [], g, i, M.V adO, s, e⟩, M2) := by rw [gX_eq _ _ hg]; unfold giveX; rfl
  have hV2 : ∀ x, x ≠ adS (slA g (g.length - 1)) 2 → M2.V x = M.V x := fun x hx => setV_other hx _
  have hO2 : M2.V adO = M.V adO := hV2 _ (neOS (hsl _ (by omega)) (by decide))
  have hc : casV M2.V adO (M.V adO) = true := by rw [casV_O, hO2]; exact decide_eq_true rfl
  have k4 : oX ⟨4, [], g, i, M.V adO, s, e⟩ M2 = (⟨0, [], g, i, M.V adO, s, e⟩, csM M2 adO (M.V adO) (headW (slA g 0) (fld (M.V adO) 16 48 + 1))) := by
    rw [gX_eq _ _ hg]
    unfold giveX
    dsimp only
    rw [if_neg (show ¬ (4 : Int) = 1 by decide), if_neg (show ¬ (4 : Int) = 2 by decide), if_neg (show ¬ (4 : Int) = 3 by decide), if_pos rfl, if_pos hc]
  have hV : (csM M2 adO (M.V adO) (headW (slA g 0) (fld (M.V adO) 16 48 + 1))).V = setV M2.V adO (headW (slA g 0) (fld (M.V adO) 16 48 + 1)) := by show csV _ _ _ _ = _; unfold csV; rw [if_pos hc]
  have hS : ∀ x f, 0 ≤ x ∧ x < 256 → 0 ≤ f ∧ f < 8 → setV M2.V adO (headW (slA g 0) (fld (M.V adO) 16 48 + 1)) (adS x f) = M2.V (adS x f) := fun x f hx hf => setV_other (Ne.symm (neOS hx hf)) _
  refine ⟨_, _, EndsO.step k2 nz3 (EndsO.step k3 nz4 (EndsO.last k4 rfl)), fun x f hx hf h2 => ?_, ?_⟩
  · rw [hV, hS x f hx hf]
    exact hV2 _ (neSS hx hf (hsl _ (by omega)) (by decide) (.inr h2))
  · rw [hV, setV_same mayO, head_slot _ _ (by have := hsl 0 (by omega); omega) (hsl 0 (by omega)).2]
    have hLr := hL.in_
    have hch : Chn M2.V (slA g 0) (slots g ++ L) := chn_give (b := wSlot (M.V adO)) (hL.congr fun x hx => hV2 _ (neSS (hLr x hx) (by decide) (hsl _ (by omega)) (by decide) (.inl fun k => hn x hx (k ▸ slA_mem (by omega))))) hg
      (fun x hx => ⟨(hm.2.1 x hx).1, (hm.2.1 x hx).2.1⟩)
      (fun j hj => by
        rw [hV2 _ (neSS (hsl j (by omega)) (by decide) (hsl _ (by omega)) (by decide) (.inl fun k => by have := slA_inj hm.2.2 (i := j) (j := g.length - 1) (by omega) (by omega) k; omega))]
        exact hl j hj)
      (by
        show wSlot (setV M.V _ v1 _) = _
        rw [setV_same (mayS (hsl _ (by omega)) (by decide)), head_slot _ _ hw.1 hw.2])
    exact hch.congr fun x hx => hS x 2 (hch.in_ x hx) (by decide)
/-- A Give's links alone. -/
theorem give_links (hm : mayE g) {L : List Int} (hn : ∀ x ∈ L, x ∉ slots g) : ∀ (k : Nat) (i : Nat) (M : MV), i + 1 + k = g.length → 0 < k → (∀ j, j < i → wSlot (M.V (adS (slA g j) 2)) = slA g (j + 1)) → Chn M.V (wSlot (M.V adO)) L →
    ∃ o' M', EndsO ⟨1, [], g, i, h, s, e⟩ M (k + 3) o' M' ∧ (∀ x f, 0 ≤ x ∧ x < 256 → 0 ≤ f ∧ f < 8 → f ≠ 2 → M'.V (adS x f) = M.V (adS x f)) ∧ Chn M'.V (wSlot (M'.V adO)) (slots g ++ L)
  | 0, _, _, _, h0, _, _ => absurd h0 (by decide)
  | k + 1, i, M, hk, _, hl, hL => by
    have hg := hm.1
    have hsl : ∀ j, j < g.length → 0 ≤ slA g j ∧ slA g j < 256 := fun j hj => slA_in hm hj
    let M2 := stM M (adS (slA g i) 2) (headW (slA g (i + 1)) 0)
    have hV2 : ∀ x, x ≠ adS (slA g i) 2 → M2.V x = M.V x := fun x hx => setV_other hx _
    have hO2 : M2.V adO = M.V adO := hV2 _ (neOS (hsl _ (by omega)) (by decide))
    have hl2 : ∀ j, j < i + 1 → wSlot (M2.V (adS (slA g j) 2)) = slA g (j + 1) := fun j hj => by
      by_cases e : j = i
      · subst e
        show wSlot (setV M.V _ _ _) = _
        rw [setV_same (mayS (hsl _ (by omega)) (by decide)), head_slot _ _ (by have := hsl (j + 1) (by omega); omega) (hsl (j + 1) (by omega)).2]
      · rw [hV2 _ (neSS (hsl j (by omega)) (by decide) (hsl _ (by omega)) (by decide) (.inl fun k => e (slA_inj hm.2.2 (by omega) (by omega) k)))]
        exact hl j (by omega)
    have hL2 : Chn M2.V (wSlot (M2.V adO)) L := by
      rw [hO2]
      exact hL.congr fun x hx => hV2 _ (neSS (hL.in_ x hx) (by decide) (hsl _ (by omega)) (by decide) (.inl fun k => hn x hx (k ▸ slA_mem (by omega))))
    have hfar : ∀ x f, 0 ≤ x ∧ x < 256 → 0 ≤ f ∧ f < 8 → f ≠ 2 → M2.V (adS x f) = M.V (adS x f) := fun x f hx hf h2 => hV2 _ (neSS hx hf (hsl _ (by omega)) (by decide) (.inr h2))
    have k1 : oX ⟨1, [], g, i, h, s, e⟩ M = (⟨if i + 2 = g.length then 2 else 1, [], g, i + 1, h, s, e⟩, M2) := by rw [gX_eq _ _ hg]; unfold giveX; rfl
    by_cases hz : k = 0
    · subst hz
      rw [if_pos (by omega)] at k1
      obtain ⟨o', M', g1, g2, g3⟩ := give_end (i := i + 1) (h := h) (s := s) (e := e) (M := M2) hg hm (fun j hj => hl2 j (by omega)) hL2 hn
      exact ⟨o', M', EndsO.step k1 nz2 g1, fun x f hx hf h2 => (g2 x f hx hf h2).trans (hfar x f hx hf h2), g3⟩
    · rw [if_neg (by omega)] at k1
      obtain ⟨o', M', g1, g2, g3⟩ := give_links hm hn k (i + 1) M2 (by omega) (by omega) hl2 hL2
      exact ⟨o', M', EndsO.step k1 nz1 g1, fun x f hx hf h2 => (g2 x f hx hf h2).trans (hfar x f hx hf h2), g3⟩
/-- A Give alone. -/
theorem give_alone (hm : mayE g) {L : List Int} (hn : ∀ x ∈ L, x ∉ slots g) (hL : Chn M.V (wSlot (M.V adO)) L) :
    ∃ o' M', EndsO (newG g) M (g.length + 2) o' M' ∧ (∀ x f, 0 ≤ x ∧ x < 256 → 0 ≤ f ∧ f < 8 → f ≠ 2 → M'.V (adS x f) = M.V (adS x f)) ∧ Chn M'.V (wSlot (M'.V adO)) (slots g ++ L) := by
  have hlen : g.length ≠ 0 := fun e => hm.1 (List.length_eq_zero_iff.1 e)
  unfold newG
  rw [if_pos hm]
  by_cases h1 : g.length = 1
  · rw [if_pos h1, h1]
    exact give_end hm.1 hm (fun j hj => by omega) hL hn
  · rw [if_neg h1]
    obtain ⟨o', M', g1, g2, g3⟩ := give_links (h := 0) (s := 0) (e := EP.zero) hm hn (g.length - 1) 0 M (by omega) (by omega) (fun j hj => by omega) hL
    have e3 : g.length - 1 + 3 = g.length + 2 := by omega
    rw [e3] at g1
    exact ⟨o', M', g1, g2, g3⟩
end
end Go.Proofs.YtjpanofkikfeoaaGreatDoor
namespace Go.Proofs.YtjpanofkikfeoaaGreatDoor
open Go.RowKit Go.Maps

/-- The slots that the law has entries of. -/
def inS (n : Nat) (x : Int) : Prop := x % 6 = 0 ∧ 0 ≤ x ∧ x < 6 * (n : Int)
instance (n : Nat) : DecidablePred (inS n) := fun x => by unfold inS; infer_instance
theorem inS_rng {n : Nat} (hn : n ≤ 40) (x : Int) (h : inS n x) : 0 ≤ x ∧ x < 256 := ⟨h.2.1, by have := h.2.2; omega⟩
theorem inS_at {n : Nat} {x : Int} (h : inS n x) : ∃ z : Nat, z < n ∧ x = 6 * (z : Int) := by
  obtain ⟨h1, h2, h3⟩ := h
  exact ⟨(x / 6).toNat, by omega, by omega⟩
theorem inS_of {n z : Nat} (h : z < n) : inS n (6 * (z : Int)) := ⟨by omega, by omega, by omega⟩
theorem six_inj (a b : Nat) (h : 6 * (a : Int) = 6 * (b : Int)) : a = b := by omega
theorem inS_len {n : Nat} {l : List Int} (hx : ∀ x ∈ l, inS n x) : l.length = sumN n (fun z => l.count (6 * (z : Int))) := len_sum (f := fun z => 6 * (z : Int)) six_inj fun x h => inS_at (hx x h)
theorem inS_le {n : Nat} {l : List Int} (h : l.Nodup) (hx : ∀ x ∈ l, inS n x) : l.length ≤ n := by
  rw [inS_len hx]
  exact sumN_le fun z _ => List.nodup_iff_count.1 h _
section
variable {n p : Nat} {V V' : Ad → Int} {A : Nat → TS} {C : Nat → List Int} {L : List Int}
theorem InvO.stack_le (I : InvO (inS n) V A C L) : L.length ≤ n := inS_le (List.nodup_iff_count.2 fun x => by
  have h := I.cnt x
  split at h <;> omega) fun x hx => I.stP hx
theorem InvO.rem_le (I : InvO (inS n) V A C L) (hp : p < 5) (h0 : (A p).o.ln ≠ 0) : remO (A p).o V L (C p) ≤ 5 * n + 5 := by
  have hL := I.stack_le
  have hnd := I.nodup hp
  unfold remO
  by_cases hg : (A p).o.g = []
  · rw [if_pos hg]
    have hc : (C p).length ≤ n := by
      rw [own_take h0 hg] at hnd
      exact inS_le ((List.nodup_append.1 (List.nodup_append.1 hnd).2.1).2.1) fun x hx => I.inP hp (by rw [own_take h0 hg]; exact List.mem_append_right _ (List.mem_append_right _ hx))
    repeat' split
    all_goals omega
  · rw [if_neg hg]
    have hG : (A p).o.g.length ≤ n := by
      rw [own_give h0 hg] at hnd
      have := inS_le ((List.nodup_append.1 hnd).2.1) fun x hx => I.inP hp (by rw [own_give h0 hg]; exact List.mem_append_right _ hx)
      rw [slots_len] at this
      exact this
    have hn : 1 ≤ n := by
      have : (A p).o.g.length ≠ 0 := fun e => hg (List.length_eq_zero_iff.1 e)
      omega
    repeat' split
    all_goals omega
/-- Nothing under way. -/
def idleO : OG := ⟨0, [], [], 0, 0, 0, EP.zero⟩
theorem ONum.idle : ONum idleO := ⟨u64_0', by decide, EP.zero_ok, by simp [idleO], fun h => absurd rfl h, fun _ => ⟨rfl, by decide, fun h => absurd h (by decide), fun h => absurd h (by decide), fun h => absurd h (by decide), fun h => absurd h (by decide)⟩⟩
/-- The words that the law stores of an entry. -/
def ofV (V : Ad → Int) (s : Int) : Ad → Int := setV (setV (setV (setV V (adS s 0) (headerW 2 (s + 3))) (adS s 1) (s + 1)) (adS s 3) (s + 5)) (adS s 4) (s + 9)
theorem ofV_far {s : Int} {x : Ad} (h : ∀ f, 0 ≤ f ∧ f < 8 → f ≠ 2 → x ≠ adS s f) : ofV V s x = V x := by
  unfold ofV
  rw [setV_other (h 4 (by decide) (by decide)), setV_other (h 3 (by decide) (by decide)), setV_other (h 1 (by decide) (by decide)), setV_other (h 0 (by decide) (by decide))]
theorem ofV_orphan {s : Int} (hs : 0 ≤ s ∧ s < 256) : ofV V s adO = V adO := ofV_far fun _ hf _ => neOS hs hf
theorem ofV_link {s x : Int} (hs : 0 ≤ s ∧ s < 256) (hx : 0 ≤ x ∧ x < 256) : ofV V s (adS x 2) = V (adS x 2) := ofV_far fun _ hf h2 => neSS hx (by decide) hs hf (.inr (Ne.symm h2))
theorem ofV_dat {P : Int → Prop} {s : Int} (hd : Dat P V) (hr : ∀ x, P x → 0 ≤ x ∧ x < 256) (hs : 0 ≤ s ∧ s < 256) : Dat (fun x => P x ∨ x = s) (ofV V s) := fun z hz => by
  have hz' : 0 ≤ z ∧ z < 256 := hz.elim (hr z) fun k => k ▸ hs
  have ne : ∀ {f g : Int}, 0 ≤ f ∧ f < 8 → 0 ≤ g ∧ g < 8 → f ≠ g → adS s f ≠ adS s g := fun hf hg h => neSS hs hf hs hg (.inr h)
  by_cases e : z = s
  · subst e
    unfold ofV
    refine ⟨?_, ?_, ?_, ?_⟩
    · rw [setV_other (ne (by decide) (by decide) (by decide)), setV_other (ne (by decide) (by decide) (by decide)), setV_other (ne (by decide) (by decide) (by decide)), setV_same (mayS hs (by decide))]
      exact (header_back 2 (z + 3) (by decide) ⟨by omega, by omega⟩).2
    · rw [setV_other (ne (by decide) (by decide) (by decide)), setV_other (ne (by decide) (by decide) (by decide)), setV_same (mayS hs (by decide))]
    · rw [setV_other (ne (by decide) (by decide) (by decide)), setV_same (mayS hs (by decide))]
    · rw [setV_same (mayS hs (by decide))]
  · have hP : P z := hz.resolve_right e
    obtain ⟨h1, h2, h3, h4⟩ := hd z hP
    have k : ∀ f, 0 ≤ f ∧ f < 8 → ofV V s (adS z f) = V (adS z f) := fun f hf => ofV_far fun g hg _ => neSS hz' hf hs hg (.inl e)
    rw [k 0 (by decide), k 1 (by decide), k 3 (by decide), k 4 (by decide)]
    exact ⟨h1, h2, h3, h4⟩
/-- How it begins: each has some entries. -/
structure Beg (n : Nat) (V : Ad → Int) (H : Nat → List EP) : Prop where
  dat : Dat (inS n) V
  hd : V adO = 0
  el : ∀ p, p < 5 → ∀ e ∈ H p, isE (inS n) e
  cnt : ∀ x, c5 (fun p => (slots (H p)).count x) = if inS n x then 1 else 0
theorem Beg.zero (h : V adO = 0) : Beg 0 V fun _ => [] :=
  ⟨fun s hs => by obtain ⟨_, h1, h2⟩ := hs; omega, h, (fun _ _ _ he => by cases he), fun x => by
    rw [if_neg (fun hs : inS 0 x => by obtain ⟨_, h1, h2⟩ := hs; omega)]
    simp [c5, slots]⟩
theorem Beg.add {H : Nat → List EP} (B : Beg n V H) (hn : n < 40) (hp : p < 5) : Beg (n + 1) (ofV V (6 * (n : Int))) (updF H p (H p ++ [entS (6 * (n : Int))])) := by
  have hs : 0 ≤ 6 * (n : Int) ∧ 6 * (n : Int) < 256 := by omega
  have hP : ∀ x, inS (n + 1) x ↔ inS n x ∨ x = 6 * (n : Int) := fun x => by unfold inS; push_cast; omega
  refine ⟨fun z hz => ofV_dat B.dat (inS_rng (by omega)) hs z ((hP z).1 hz), (ofV_orphan hs).trans B.hd, fun q hq e he => ?_, fun x => ?_⟩
  · have key : ∀ e, isE (inS n) e → isE (inS (n + 1)) e := fun e h => ⟨(hP _).2 (.inl h.1), h.2⟩
    by_cases k : q = p
    · subst k
      rw [updF_same] at he
      rcases List.mem_append.1 he with he | he
      · exact key e (B.el q hq e he)
      · obtain rfl : e = entS (6 * (n : Int)) := by simpa using he
        exact ⟨(hP _).2 (.inr rfl), rfl⟩
    · rw [updF_ne _ k] at he
      exact key e (B.el q hq e he)
  · have e : (fun q => (slots (updF H p (H p ++ [entS (6 * (n : Int))]) q)).count x) = fun q => if q = p then (slots (H p ++ [entS (6 * (n : Int))])).count x else (slots (H q)).count x := by
      funext q
      by_cases e : q = p
      · subst e; rw [updF_same, if_pos rfl]
      · rw [updF_ne _ e, if_neg e]
    rw [e]
    have h1 := c5_put hp (fun q => (slots (H q)).count x) ((slots (H p ++ [entS (6 * (n : Int))])).count x)
    have h2 := B.cnt x
    have h3 : (slots (H p ++ [entS (6 * (n : Int))])).count x = (slots (H p)).count x + if 6 * (n : Int) = x then 1 else 0 := by
      rw [slots_app, List.count_append]
      show _ + List.count x [6 * (n : Int)] = _
      rw [List.count_singleton]
      simp
    have hlt : ¬ inS n (6 * (n : Int)) := fun k => by have := k.2.2; omega
    rw [h3] at h1 ⊢
    by_cases ex : 6 * (n : Int) = x
    · subst ex
      rw [if_neg hlt] at h2
      rw [if_pos rfl] at h1 ⊢
      rw [if_pos ((hP _).2 (.inr rfl))]
      omega
    · rw [if_neg ex] at h1 ⊢
      have hiff : (if inS (n + 1) x then 1 else 0) = if inS n x then 1 else 0 := by
        by_cases hx : inS n x
        · rw [if_pos hx, if_pos ((hP x).2 (.inl hx))]
        · rw [if_neg hx, if_neg fun k => ((hP x).1 k).elim hx fun k => ex k.symm]
      rw [hiff]
      omega
theorem Beg.inv {H : Nat → List EP} (B : Beg n V H) (hn : n ≤ 40) : InvO (inS n) V (fun p => ⟨H p, idleO⟩) (fun _ => []) [] := by
  refine ⟨?_, fun p hp => ⟨.idle, B.el p hp, fun h => absurd rfl h, fun h => absurd rfl h⟩, fun x => ?_, B.dat, inS_rng hn⟩
  · rw [B.hd]
    show wSlot 0 < 0
    decide
  · have e : (fun p => ((⟨H p, idleO⟩ : TS).own []).count x) = fun p => (slots (H p)).count x := by
      funext p
      rw [own_idle (t := ⟨H p, idleO⟩) rfl]
    rw [e, B.cnt x]
    simp
/-- What all have at the end. -/
def restL (A : Nat → TS) (L : List Int) : List EP := (A 0).held ++ (A 1).held ++ (A 2).held ++ (A 3).held ++ (A 4).held ++ L.map entS
theorem slots_ent (L : List Int) : slots (L.map entS) = L := by
  unfold slots
  rw [List.map_map]
  exact List.map_id'' (fun _ => rfl) L
theorem count_ent {P : Int → Prop} {s : Int} : ∀ {l : List EP}, (∀ e ∈ l, isE P e) → l.count (entS s) = (slots l).count s
  | [], _ => rfl
  | e :: l, h => by
    have he := h e (by simp)
    have ih := count_ent (s := s) (l := l) fun x hx => h x (by simp [hx])
    show List.count (entS s) (e :: l) = List.count s (e.s :: slots l)
    rw [List.count_cons, List.count_cons, ih]
    have : (e == entS s) = (e.s == s) := by
      by_cases k : e.s = s
      · rw [he.2, k]; simp [entS]
      · have h1 : (e.s == s) = false := beq_eq_false_iff_ne.2 k
        have h2 : (e == entS s) = false := beq_eq_false_iff_ne.2 fun g => k (by rw [g]; rfl)
        rw [h1, h2]
    rw [this]
theorem InvO.rest (I : InvO (inS n) V A C L) (hi : ∀ p, p < 5 → (A p).o.ln = 0) : (restL A L).length = n ∧ (∀ e ∈ restL A L, isE (inS n) e) ∧ ∀ z : Nat, z < n → (restL A L).count (entS (6 * (z : Int))) = 1 := by
  have hel : ∀ e ∈ restL A L, isE (inS n) e := fun e he => by
    unfold restL at he
    simp only [List.mem_append] at he
    rcases he with ((((he | he) | he) | he) | he) | he
    · exact (I.ok 0 (by decide)).held e he
    · exact (I.ok 1 (by decide)).held e he
    · exact (I.ok 2 (by decide)).held e he
    · exact (I.ok 3 (by decide)).held e he
    · exact (I.ok 4 (by decide)).held e he
    · obtain ⟨x, hx, rfl⟩ := List.mem_map.1 he
      exact ⟨I.stP hx, rfl⟩
  have hcnt : ∀ x, (slots (restL A L)).count x = if inS n x then 1 else 0 := fun x => by
    rw [← I.cnt x]
    unfold restL c5
    dsimp only
    rw [slots_app, slots_app, slots_app, slots_app, slots_app, slots_ent, own_idle (hi 0 (by decide)), own_idle (hi 1 (by decide)), own_idle (hi 2 (by decide)), own_idle (hi 3 (by decide)), own_idle (hi 4 (by decide))]
    simp only [List.count_append]
  refine ⟨?_, hel, fun z hz => ?_⟩
  · rw [← slots_len, inS_len (n := n) fun x hx => by
      have h := hcnt x
      have := List.count_pos_iff.2 hx
      split at h
      · assumption
      · omega]
    exact sumN_ones fun z hz => by rw [hcnt, if_pos (inS_of hz)]
  · rw [count_ent hel, hcnt, if_pos (inS_of hz)]
end
end Go.Proofs.YtjpanofkikfeoaaGreatDoor
