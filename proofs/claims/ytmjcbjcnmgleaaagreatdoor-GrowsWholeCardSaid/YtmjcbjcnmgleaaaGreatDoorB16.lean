/-
  How many steps of the memory an operation's step takes; the law's Made, of one alone; condition: the tables as laid, the memory lies as it says.
  One thread alone: what an Alloc and a Free leave, in plain words; a Free's steps in a row; the law's examples (lives); condition: the tables as laid.
-/
import Derived.Test.YtmjcbjcnmgleaaaGreatDoorB14
import Derived.Laws.StructEq
namespace Go.Proofs.YtmjcbjcnmgleaaaGreatDoor
open Go.RowKit Go.Maps

theorem ld_st (M : MV) (x : Ad) : (ldM M x).s.st = M.s.st + 1 := rfl
theorem popX_st (o : OS) (M : MV) : (popX o M).2.s.st ≤ M.s.st + 1 := by
  unfold popX
  by_cases h : o.nx = 1
  · rw [if_pos h]; exact Int.le_refl _
  rw [if_neg h]
  by_cases h : o.nx = 2
  · rw [if_pos h]; exact Int.le_refl _
  rw [if_neg h]
  by_cases h : o.nx = 3
  · rw [if_pos h]; exact Int.le_refl _
  rw [if_neg h]
  show M.s.st ≤ M.s.st + 1
  omega
theorem pushX_st (o : OS) (M : MV) : (pushX o M).2.s.st ≤ M.s.st + 1 := by
  unfold pushX
  by_cases h : o.nx = 1
  · rw [if_pos h]; exact Int.le_refl _
  rw [if_neg h]
  by_cases h : o.nx = 2
  · rw [if_pos h]; exact Int.le_refl _
  rw [if_neg h]
  by_cases h : o.nx = 3
  · rw [if_pos h]; exact Int.le_refl _
  rw [if_neg h]
  show M.s.st ≤ M.s.st + 1
  omega
theorem parkX_st (o : PO) (M : MV) : (parkX o M).2.s.st ≤ M.s.st + 1 := by
  unfold parkX
  by_cases h : o.ln = 1
  · rw [if_pos h]; exact Int.le_refl _
  rw [if_neg h]
  clear h
  by_cases h : o.ln = 2
  · rw [if_pos h]; exact Int.le_refl _
  rw [if_neg h]
  clear h
  by_cases h : o.ln = 3
  · rw [if_pos h]; exact Int.le_refl _
  rw [if_neg h]
  clear h
  by_cases h : o.ln = 4
  · rw [if_pos h]; exact Int.le_refl _
  rw [if_neg h]
  clear h
  by_cases h : o.ln = 5
  · rw [if_pos h]; exact Int.le_refl _
  rw [if_neg h]
  clear h
  by_cases h : o.ln = 6
  · rw [if_pos h]; exact Int.le_refl _
  rw [if_neg h]
  clear h
  by_cases h : o.ln = 7
  · rw [if_pos h]; exact Int.le_refl _
  rw [if_neg h]
  clear h
  by_cases h : o.ln = 8
  · rw [if_pos h]; exact Int.le_refl _
  rw [if_neg h]
  clear h
  by_cases h : o.ln = 9
  · rw [if_pos h]; exact Int.le_refl _
  rw [if_neg h]
  clear h
  by_cases h : o.ln = 10
  · rw [if_pos h]; exact pushX_st _ _
  rw [if_neg h]
  clear h
  by_cases h : o.ln = 11
  · rw [if_pos h]; exact Int.le_refl _
  rw [if_neg h]
  clear h
  by_cases h : o.ln = 12
  · rw [if_pos h]; exact Int.le_refl _
  rw [if_neg h]
  show M.s.st ≤ M.s.st + 1
  omega
theorem frX_st (o : FX) (M : MV) : (frX o M).2.s.st ≤ M.s.st + 1 := by
  unfold frX
  by_cases h : o.o.ln = 1
  · rw [if_pos h]; exact Int.le_refl _
  rw [if_neg h]
  clear h
  by_cases h : o.o.ln = 2
  · rw [if_pos h]; exact Int.le_refl _
  rw [if_neg h]
  clear h
  by_cases h : o.o.ln = 3
  · rw [if_pos h]; exact Int.le_refl _
  rw [if_neg h]
  clear h
  by_cases h : o.o.ln = 4
  · rw [if_pos h]; exact Int.le_refl _
  rw [if_neg h]
  clear h
  by_cases h : o.o.ln = 5
  · rw [if_pos h]; exact Int.le_refl _
  rw [if_neg h]
  clear h
  by_cases h : o.o.ln = 6
  · rw [if_pos h]; exact parkX_st _ _
  rw [if_neg h]
  clear h
  by_cases h : o.o.ln = 7
  · rw [if_pos h]; exact pushX_st _ _
  rw [if_neg h]
  show M.s.st ≤ M.s.st + 1
  omega
theorem alX_st (o : AX) (M : MV) : (alX o M).2.s.st ≤ M.s.st + 1 := by
  unfold alX
  by_cases h : o.o.ln = 1
  · rw [if_pos h]; exact popX_st _ _
  rw [if_neg h]
  clear h
  by_cases h : o.o.ln = 2
  · rw [if_pos h]; exact Int.le_refl _
  rw [if_neg h]
  clear h
  by_cases h : o.o.ln = 3
  · rw [if_pos h]; exact parkX_st _ _
  rw [if_neg h]
  clear h
  by_cases h : o.o.ln = 4
  · rw [if_pos h]; exact Int.le_refl _
  rw [if_neg h]
  clear h
  by_cases h : o.o.ln = 5
  · rw [if_pos h]; exact Int.le_refl _
  rw [if_neg h]
  clear h
  by_cases h : o.o.ln = 6
  · rw [if_pos h]; exact Int.le_refl _
  rw [if_neg h]
  clear h
  by_cases h : o.o.ln = 7
  · rw [if_pos h]; exact Int.le_refl _
  rw [if_neg h]
  show M.s.st ≤ M.s.st + 1
  omega
section
variable {p b q r r1 g : Nat} {E : List Nat} {o : AX} {f : FX} {M : MV} {W w w' X Y : World}
/-- Blocks that were not there count as nothing. -/
theorem Onl.past (h : Onl p b [] W X) (k : Onl p b E X Y) (hE : ∀ x ∈ E, W.heap.size ≤ x) : Onl p b [] W Y :=
  ⟨k.os.trans h.os, k.tape.trans h.tape, k.output.trans h.output, Nat.le_trans h.size k.size, fun j hj h1 h2 h3 => (k.block j (Nat.lt_of_lt_of_le hj h.size) h1 h2 (fun e => by have := hE j e; omega)).trans (h.block j hj h1 h2 h3)⟩
theorem AlRep.on (h : AlRep q r r1 o w) (hn : o.o.ln ≠ 0) : ∃ t v0 v1 v2 v3 v4, Bq q 167 [.iface t v0, v1, v2, v3, v4] w := by
  rcases h with ⟨h, _⟩ | ⟨pt, bt, cs, s, g, hp, h1, h2, kq, kr⟩ | ⟨h, g, kq, P⟩
  · exact absurd h hn
  · exact ⟨_, _, _, _, _, _, kq⟩
  · exact ⟨_, _, _, _, _, _, kq⟩
theorem AlRep.off (h : AlRep q r r1 o w) (hn : o.o.ln = 0) : ∃ s g, (o.o.got = true → s = o.o.sl ∧ g = gW o.o.w) ∧ Bq q 167 [.nilIface, .int .i64 s, .int .u32 g, .bool false, .bool o.o.got] w := by
  rcases h with ⟨h, s, g, hg, k⟩ | ⟨pt, bt, cs, s, g, hp, h1, h2, kq, kr⟩ | ⟨h, g, kq, P⟩
  · exact ⟨s, g, hg, k⟩
  · exfalso; cases hp <;> omega
  · exfalso; omega
theorem FrRep.on (h : FrRep q r r1 f w) (hn : f.o.ln ≠ 0) : ∃ t v0 v1 v2 v3, Bq q 161 [.iface t v0, v1, v2, v3] w := by
  rcases h with ⟨h, _⟩ | ⟨pt, bt, cs, hp, kq, kr⟩ | ⟨h, kq, P⟩
  · exact absurd h hn
  · exact ⟨_, _, _, _, _, kq⟩
  · exact ⟨_, _, _, _, _, kq⟩
theorem FrRep.off (h : FrRep q r r1 f w) (hn : f.o.ln = 0) : ∃ s g, Bq q 161 [.nilIface, .int .i64 s, .int .u32 g, .int .u8 f.got] w := by
  rcases h with ⟨h, s, g, k⟩ | ⟨pt, bt, cs, hp, kq, kr⟩ | ⟨h, kq, P⟩
  · exact ⟨s, g, k⟩
  · exfalso; cases hp <;> omega
  · exfalso; omega
theorem PkX.keep {q r : Nat} {o : PO} {w w' : World} (h : PkX q r o w) (F : VX p b M w) (ho : Only p b w w') : PkX q r o w' := by
  rcases h with ⟨h, s, g, k⟩ | ⟨pt, bt, cs, hp, kq, kr⟩
  · exact .inl ⟨h, s, g, k.only F (by decide) ho⟩
  · exact .inr ⟨pt, bt, cs, hp, kq.only F (by decide) ho, kr.only F hp.ne.2.1 ho⟩
theorem AlRep.keep (h : AlRep q r r1 o w) (F : VX p b M w) (ho : Only p b w w') : AlRep q r r1 o w' := by
  rcases h with ⟨h, s, g, hg, k⟩ | ⟨pt, bt, cs, s, g, hp, h1, h2, kq, kr⟩ | ⟨h, g, kq, P⟩
  · exact .inl ⟨h, s, g, hg, k.only F (by decide) ho⟩
  · exact .inr (.inl ⟨pt, bt, cs, s, g, hp, h1, h2, kq.only F (by decide) ho, kr.only F hp.ne.2 ho⟩)
  · exact .inr (.inr ⟨h, g, kq.only F (by decide) ho, P.keep F ho⟩)
theorem FrRep.keep (h : FrRep q r r1 f w) (F : VX p b M w) (ho : Only p b w w') : FrRep q r r1 f w' := by
  rcases h with ⟨h, s, g, k⟩ | ⟨pt, bt, cs, hp, kq, kr⟩ | ⟨h, kq, P⟩
  · exact .inl ⟨h, s, g, k.only F (by decide) ho⟩
  · exact .inr (.inl ⟨pt, bt, cs, hp, kq.only F (by decide) ho, kr.only F hp.ne.2 ho⟩)
  · exact .inr (.inr ⟨h, kq.only F (by decide) ho, P.keep F ho⟩)
theorem alOver (h : AlRep q r r1 o w) : Calls Tryz.prog 58 #[.pointer (some ⟨q, 0, none⟩)] w fun e w' => e = .returned (.bool (o.o.ln == 0)) ∧ w' = w := by
  by_cases hn : o.o.ln = 0
  · obtain ⟨s, g, _, k⟩ := h.off hn
    rw [hn]
    exact overAlloc_yes k
  · obtain ⟨t, v0, v1, v2, v3, v4, k⟩ := h.on hn
    rw [fls hn]
    exact overAlloc_no k
theorem frOver (h : FrRep q r r1 f w) : Calls Tryz.prog 91 #[.pointer (some ⟨q, 0, none⟩)] w fun e w' => e = .returned (.bool (f.o.ln == 0)) ∧ w' = w := by
  by_cases hn : f.o.ln = 0
  · obtain ⟨s, g, k⟩ := h.off hn
    rw [hn]
    exact overFree_yes k
  · obtain ⟨t, v0, v1, v2, v3, k⟩ := h.on hn
    rw [fls hn]
    exact overFree_no k
/-- What an Alloc tells. -/
def refV (o : AX) : Value := if o.o.got = true then .agg #[.int .i64 o.o.sl, .int .u32 (gW o.o.w), .bool false] else .agg #[.int .i64 (-1), .int .u32 0, .bool false]
theorem alGot (h : AlRep q r r1 o w) (hg : o.o.got = true → o.o.ln = 0) : Calls Tryz.prog 53 #[.pointer (some ⟨q, 0, none⟩)] w fun e w' => e = .returned (.tuple #[refV o, .bool o.o.got]) ∧ Below w.heap.size w w' := by
  by_cases hgo : o.o.got = true
  · obtain ⟨s, g, h2, k⟩ := h.off (hg hgo)
    obtain ⟨rfl, rfl⟩ := h2 hgo
    rw [hgo] at k
    unfold refV
    rw [if_pos hgo, hgo]
    exact gotAlloc_yes k
  · have hf : o.o.got = false := by simpa using hgo
    unfold refV
    rw [if_neg hgo, hf]
    rcases h with ⟨h, s, g, _, k⟩ | ⟨pt, bt, cs, s, g, hp, h1, h2, kq, kr⟩ | ⟨h, g, kq, P⟩
    · rw [hf] at k; exact gotAlloc_no k
    · exact gotAlloc_no kq
    · exact gotAlloc_no kq
/-- An operation of one alone, as far as it has come. -/
structure Sole (W : World) (p b g q : Nat) (o : AX) (M : MV) (w : World) : Prop where
  rep : ∃ r r1, AlRep q r r1 o w ∧ g < r ∧ g < r1
  num : AlNum o
  mem : VX p b M w
  low : Onl p b [] W w
  gq : g < q
  old : W.heap.size ≤ g
  got : o.o.got = true → o.o.ln = 0
  res : Bq g 85 [.int .i64 0, .int .u32 0, .bool false] w
theorem alX_got {o : AX} {M : MV} (ok : AlNum o) (hM : ∀ x, U64 (M.V x)) (_ : o.o.got = true → o.o.ln = 0) : (alX o M).1.o.got = true → (alX o M).1.o.ln = 0 := by
  intro hg
  by_cases hn : o.o.ln = 0
  · have e : alX o M = (o, M) := by unfold alX; rw [if_neg (by omega), if_neg (by omega), if_neg (by omega), if_neg (by omega), if_neg (by omega), if_neg (by omega), if_neg (by omega)]
    rw [e]; exact hn
  · exact Classical.byContradiction fun hc => by rw [(ok.step hM).got hc] at hg; cases hg
theorem Sole.step (h : Sole W p b g q o M w) (h1 : 1 < W.heap.size) (hs : M.s.st < 1000000) :
    Calls Tryz.prog 52 #[.pointer (some ⟨q, 0, none⟩), .pointer (some ⟨p, 0, none⟩)] w fun e w' => e = .returned (.bool ((alX o M).1.o.ln == 0)) ∧ Sole W p b g q (alX o M).1 (alX o M).2 w' := by
  obtain ⟨⟨r, r1, hr, g1, g2⟩, hn, F, low, gq, old, got, res⟩ := h
  refine (alloc_stepX (by omega) (by omega) (by omega) F hs hn hr).mono ?_
  rintro e w' ⟨rfl, r', r1', k1, k2, k3, k4, k5⟩
  have hg := F.ne (by decide) res
  have hgs := res.lt
  refine ⟨rfl, ⟨r', r1', k1, by omega, by omega⟩, hn.step F.u64, k2, low.past k3 (fun x hx => ?_), gq, old, alX_got hn F.u64 got, res.onl k3 hg.1 hg.2 (fun hx => ?_)⟩
  · simp only [List.mem_cons, List.not_mem_nil, or_false] at hx
    omega
  · simp only [List.mem_cons, List.not_mem_nil, or_false] at hx
    omega
theorem Sole.begin {W w1 w2 : World} (F : VX p b M W) (hW : W.heap.size ≤ g) (hgw : g < w1.heap.size) (hb1 : Below W.heap.size W w1) (hg : Bq g 85 [.int .i64 0, .int .u32 0, .bool false] w1) (hr : w1.heap.size ≤ r) (hq : r < q) (k : Bq q 167 [.iface 164 (.pointer (some ⟨r, 0, none⟩)), .int .i64 0, .int .u32 0, .bool false, .bool false] w2) (o2 : OpAt 210 r 1 0 0 w2) (hb2 : Below w1.heap.size w1 w2) :
    Sole W p b g q ⟨newAl, 0⟩ M w2 :=
  ⟨⟨r, r, .inr (.inl ⟨_, _, _, _, _, .l1 rfl, fun hh => absurd rfl hh, fun hh => absurd (show (1 : Int) = 7 from hh) (by decide), k, o2⟩), by omega, by omega⟩, AlNum.new, F.below (hb1.trans (hb2.mono hb1.size)), .of_below (hb1.trans (hb2.mono hb1.size)), by omega, hW, fun h => (by cases h), hg.below hb2⟩
theorem Bq.s3 {t : TypeId} {c0 c1 c2 : Value} (k : Bq q t [c0, c1, c2] w) : w.cell? ⟨q, 0, none⟩ = some c0 ∧ w.cell? ⟨q, 1, none⟩ = some c1 ∧ w.cell? ⟨q, 2, none⟩ = some c2 ∧ w.frozen? ⟨q, 0, none⟩ = false ∧ w.frozen? ⟨q, 1, none⟩ = false ∧ w.frozen? ⟨q, 2, none⟩ = false := ⟨k.cell 0, k.cell 1, k.cell 2, k.free 0, k.free 1, k.free 2⟩
def fill3 (e : Nat) (d0 d1 d2 : Value) (W : World) : World := ((W.setCell ⟨e, 0, none⟩ d0).setCell ⟨e, 1, none⟩ d1).setCell ⟨e, 2, none⟩ d2
theorem Bq.fill3 {t : TypeId} {c0 c1 c2 d0 d1 d2 : Value} {e : Nat} (k : Bq e t [c0, c1, c2] w) : Bq e t [d0, d1, d2] (fill3 e d0 d1 d2 w) :=
  ((k.set 0 d0 (cs' := [d0, c1, c2]) rfl).set 1 d1 (cs' := [d0, d1, c2]) rfl).set 2 d2 rfl
theorem onl_fill3 {d0 d1 d2 : Value} (h : Onl p b [] W w) (hg : W.heap.size ≤ g) : Onl p b [] W (fill3 g d0 d1 d2 w) := by
  refine h.past (E := [g]) (((Onl.setCell w (by simp) 0 d0).trans (.setCell _ (by simp) 1 d1)).trans (.setCell _ (by simp) 2 d2)) (fun x hx => ?_)
  simp only [List.mem_cons, List.not_mem_nil, or_false] at hx
  omega
theorem vx_fill3 {d0 d1 d2 : Value} (F : VX p b M w) (h1 : g ≠ p) (h2 : g ≠ b) (h3 : 1 < g) : VX p b M (fill3 g d0 d1 d2 w) := ((F.setQ h1 h2 h3 0 d0).setQ h1 h2 h3 1 d1).setQ h1 h2 h3 2 d2
theorem ref_parts (o : AX) : ∃ s u : Int, refV o = .agg #[.int .i64 s, .int .u32 u, .bool false] := by
  unfold refV
  split
  · exact ⟨_, _, rfl⟩
  · exact ⟨_, _, rfl⟩
theorem results_two {P : Program} {fn : Func} {p0 q0 : Tmp} {ty : TypeId} (h : fn.results = #[.cell p0 ty, .tmp q0]) (tmps : Array Value) (w : World) (g : Nat) (t : TypeId) (cs : Array Value) (fr : Nat × Nat) (d : TypeDesc)
    (hp : tmps.getD p0 undef = .pointer (some ⟨g, 0, none⟩)) (hg : w.heap[g]? = some (.cells cs t fr))
    (hu : P.underlying ty = some d) (hd : (match d with | .struct _ | .array _ _ => true | _ => false) = true) (hi : (P.info? ty).map (·.size) = some cs.size) :
    (results fn tmps).run P w = .ok (.tuple #[.agg cs, tmps.getD q0 undef]) w := by
  have hp' : tmps[p0]?.getD undef = .pointer (some ⟨g, 0, none⟩) := by simpa using hp
  simp [results, h, hp', asAddr, run_loadVar_row w g t ty cs fr d hg hu hd hi]
end
end Go.Proofs.YtmjcbjcnmgleaaaGreatDoor
namespace Go.Proofs.YtmjcbjcnmgleaaaGreatDoor
open Go.RowKit Go.Maps

section
variable {M : MV} {S : List Int} {s T : Int}
end
/-- A Free of one alone, as far as it has come. -/
structure SoleF (W : World) (p b q : Nat) (f : FX) (M : MV) (w : World) : Prop where
  rep : ∃ r r1, FrRep q r r1 f w ∧ W.heap.size ≤ r ∧ W.heap.size ≤ r1
  num : FrNum f
  mem : VX p b M w
  low : Onl p b [] W w
  old : W.heap.size ≤ q
section
variable {p b q r : Nat} {f : FX} {M : MV} {W w w' X Y : World}
theorem SoleF.step (h : SoleF W p b q f M w) (h1 : 1 < W.heap.size) (hs : M.s.st < 1000000) :
    Calls Tryz.prog 54 #[.pointer (some ⟨q, 0, none⟩), .pointer (some ⟨p, 0, none⟩)] w fun e w' => e = .returned (.bool ((frX f M).1.o.ln == 0)) ∧ SoleF W p b q (frX f M).1 (frX f M).2 w' := by
  obtain ⟨⟨r, r1, hr, g1, g2⟩, hn, F, low, old⟩ := h
  refine (free_stepX (by omega) (by omega) (by omega) F hs hn hr).mono ?_
  rintro e w' ⟨rfl, r', r1', k1, k2, k3, k4, k5⟩
  have := low.size
  refine ⟨rfl, ⟨r', r1', k1, by omega, by omega⟩, hn.step F.u64, k2, low.past k3 (fun x hx => ?_), old⟩
  simp only [List.mem_cons, List.not_mem_nil, or_false] at hx
  omega
theorem SoleF.begin {s m : Int} (h0 : 0 ≤ s) (h1 : s < 256) (hm : 0 ≤ m ∧ m < 4294967296) (F : VX p b M W) (hr : W.heap.size ≤ r) (hq : r < q) (k : Bq q 161 [.iface 162 (.pointer (some ⟨r, 0, none⟩)), .int .i64 s, .int .u32 m, .int .u8 0] w) (k2 : Bq r 209 [.int .u8 9, .int .i64 s, .int .i64 0, .int .u64 0] w) (hb : Below W.heap.size W w) :
    SoleF W p b q ⟨newFr s m, 0⟩ M w :=
  ⟨⟨r, r, .inr (.inl ⟨_, _, _, .l1 rfl, k, k2⟩), by omega, by omega⟩, FrNum.new ⟨h0, h1⟩ hm, F.below hb, .of_below hb, by omega⟩
theorem SoleF.over (h : SoleF W p b q f M w) : Calls Tryz.prog 91 #[.pointer (some ⟨q, 0, none⟩)] w fun e w' => e = .returned (.bool (f.o.ln == 0)) ∧ w' = w := by
  obtain ⟨r, r1, hr, _⟩ := h.rep
  exact frOver hr
end
/-- The examples' memory behind i Allocs. -/
structure Liv (i : Nat) (M : MV) : Prop where
  stk : Stk (maV M.V).ms (downS (8 - i)) (8 + i)
  hdr : ∀ z : Int, 0 ≤ z → z < 8 - i → (maV M.V).hdr z = 0
  own : 1 ≤ i → (maV M.V).hdr (8 - i) = headerW 1 0
  sst : (maV M.V).sst 0 = 1
  era : M.V adEr = 5
  st : M.s.st = 26 + 8 * i
end Go.Proofs.YtmjcbjcnmgleaaaGreatDoor
