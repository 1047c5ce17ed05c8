/-
  How many steps of the memory an operation's step takes; the law's Made, of one alone; condition: the tables as laid, the memory lies as it says.
  One thread alone: what an Alloc and a Free leave, in plain words; a Free's steps in a row; the law's examples (lives); condition: the tables as laid.
-/
import Derived.Test.YtmjcbjcnmgleaaaGreatDoorB14
import Derived.Laws.StructEq
namespace Go.Proofs.YtmjcbjcnmgleaaaGreatDoor
open Go.RowKit Go.Maps

theorem ld_st (M : MV) (x : Ad) : (ldM M x).s.st = M.s.st + 1 := rfl
theorem st_st (M : MV) (x : Ad) (v : Int) : (stM M x v).s.st = M.s.st + 1 := rfl
theorem cs_st (M : MV) (x : Ad) (u v : Int) : (csM M x u v).s.st = M.s.st + 1 := rfl
theorem popX_st (o : OS) (M : MV) : (popX o M).2.s.st ≤ M.s.st + 1 := by
  unfold popX
  by_cases h : o.nx = 1
  · rw [if_pos h]; exact Int.le_refl _
  rw [if_neg h]
  by_cases h : o.nx = 2
  · rw [if_pos h]; exact Int.le_refl _
  rw [if_neg h]
  by_cases h : o.nx = 3
  · rw [if_pos h]; exact Int.le_refl _
  rw [if_neg h]
  show M.s.st ≤ M.s.st + 1
  omega
theorem pushX_st (o : OS) (M : MV) : (pushX o M).2.s.st ≤ M.s.st + 1 := by
  unfold pushX
  by_cases h : o.nx = 1
  · rw [if_pos h]; exact Int.le_refl _
  rw [if_neg h]
  by_cases h : o.nx = 2
  · rw [if_pos h]; exact Int.le_refl _
  rw [if_neg h]
  by_cases h : o.nx = 3
  · rw [if_pos h]; exact Int.le_refl _
  rw [if_neg h]
  show M.s.st ≤ M.s.st + 1
  omega
theorem parkX_st (o : PO) (M : MV) : (parkX o M).2.s.st ≤ M.s.st + 1 := by
  unfold parkX
  by_cases h : o.ln = 1
  · rw [if_pos h]; exact Int.le_refl _
  rw [if_neg h]
  clear h
  by_cases h : o.ln = 2
  · rw [if_pos h]; exact Int.le_refl _
  rw [if_neg h]
  clear h
  by_cases h : o.ln = 3
  · rw [if_pos h]; exact Int.le_refl _
  rw [if_neg h]
  clear h
  by_cases h : o.ln = 4
  · rw [if_pos h]; exact Int.le_refl _
  rw [if_neg h]
  clear h
  by_cases h : o.ln = 5
  · rw [if_pos h]; exact Int.le_refl _
  rw [if_neg h]
  clear h
  by_cases h : o.ln = 6
  · rw [if_pos h]; exact Int.le_refl _
  rw [if_neg h]
  clear h
  by_cases h : o.ln = 7
  · rw [if_pos h]; exact Int.le_refl _
  rw [if_neg h]
  clear h
  by_cases h : o.ln = 8
  · rw [if_pos h]; exact Int.le_refl _
  rw [if_neg h]
  clear h
  by_cases h : o.ln = 9
  · rw [if_pos h]; exact Int.le_refl _
  rw [if_neg h]
  clear h
  by_cases h : o.ln = 10
  · rw [if_pos h]; exact pushX_st _ _
  rw [if_neg h]
  clear h
  by_cases h : o.ln = 11
  · rw [if_pos h]; exact Int.le_refl _
  rw [if_neg h]
  clear h
  by_cases h : o.ln = 12
  · rw [if_pos h]; exact Int.le_refl _
  rw [if_neg h]
  show M.s.st ≤ M.s.st + 1
  omega
theorem frX_st (o : FX) (M : MV) : (frX o M).2.s.st ≤ M.s.st + 1 := by
  unfold frX
  by_cases h : o.o.ln = 1
  · rw [if_pos h]; exact Int.le_refl _
  rw [if_neg h]
  clear h
  by_cases h : o.o.ln = 2
  · rw [if_pos h]; exact Int.le_refl _
  rw [if_neg h]
  clear h
  by_cases h : o.o.ln = 3
  · rw [if_pos h]; exact Int.le_refl _
  rw [if_neg h]
  clear h
  by_cases h : o.o.ln = 4
  · rw [if_pos h]; exact Int.le_refl _
  rw [if_neg h]
  clear h
  by_cases h : o.o.ln = 5
  · rw [if_pos h]; exact Int.le_refl _
  rw [if_neg h]
  clear h
  by_cases h : o.o.ln = 6
  · rw [if_pos h]; exact parkX_st _ _
  rw [if_neg h]
  clear h
  by_cases h : o.o.ln = 7
  · rw [if_pos h]; exact pushX_st _ _
  rw [if_neg h]
  show M.s.st ≤ M.s.st + 1
  omega
theorem alX_st (o : AX) (M : MV) : (alX o M).2.s.st ≤ M.s.st + 1 := by
  unfold alX
  by_cases h : o.o.ln = 1
  · rw [if_pos h]; exact popX_st _ _
  rw [if_neg h]
  clear h
  by_cases h : o.o.ln = 2
  · rw [if_pos h]; exact Int.le_refl _
  rw [if_neg h]
  clear h
  by_cases h : o.o.ln = 3
  · rw [if_pos h]; exact parkX_st _ _
  rw [if_neg h]
  clear h
  by_cases h : o.o.ln = 4
  · rw [if_pos h]; exact Int.le_refl _
  rw [if_neg h]
  clear h
  by_cases h : o.o.ln = 5
  · rw [if_pos h]; exact Int.le_refl _
  rw [if_neg h]
  clear h
  by_cases h : o.o.ln = 6
  · rw [if_pos h]; exact Int.le_refl _
  rw [if_neg h]
  clear h
  by_cases h : o.o.ln = 7
  · rw [if_pos h]; exact Int.le_refl _
  rw [if_neg h]
  show M.s.st ≤ M.s.st + 1
  omega
theorem iterA_st (M : MV) : ∀ j : Nat, (iterA M j).2.s.st ≤ M.s.st + j
  | 0 => by show M.s.st ≤ M.s.st + 0; omega
  | j + 1 => by
    have := alX_st (iterA M j).1 (iterA M j).2
    have := iterA_st M j
    show (alX (iterA M j).1 (iterA M j).2).2.s.st ≤ _
    push_cast
    omega
theorem iterF_st (x m : Int) (M : MV) : ∀ j : Nat, (iterF x m M j).2.s.st ≤ M.s.st + j
  | 0 => by show M.s.st ≤ M.s.st + 0; omega
  | j + 1 => by
    have := frX_st (iterF x m M j).1 (iterF x m M j).2
    have := iterF_st x m M j
    show (frX (iterF x m M j).1 (iterF x m M j).2).2.s.st ≤ _
    push_cast
    omega
section
variable {p b q r r1 g : Nat} {E : List Nat} {o : AX} {f : FX} {M : MV} {W w w' X Y : World}
/-- Blocks that were not there count as nothing. -/
theorem Onl.past (h : Onl p b [] W X) (k : Onl p b E X Y) (hE : ∀ x ∈ E, W.heap.size ≤ x) : Onl p b [] W Y :=
  ⟨k.os.trans h.os, k.tape.trans h.tape, k.output.trans h.output, Nat.le_trans h.size k.size, fun j hj h1 h2 h3 => (k.block j (Nat.lt_of_lt_of_le hj h.size) h1 h2 (fun e => by have := hE j e; omega)).trans (h.block j hj h1 h2 h3)⟩
theorem AlRep.on (h : AlRep q r r1 o w) (hn : o.o.ln ≠ 0) : ∃ t v0 v1 v2 v3 v4, Bq q 167 [.iface t v0, v1, v2, v3, v4] w := by
  rcases h with ⟨h, _⟩ | ⟨pt, bt, cs, s, g, hp, h1, h2, kq, kr⟩ | ⟨h, g, kq, P⟩
  · exact absurd h hn
  · exact ⟨_, _, _, _, _, _, kq⟩
  · exact ⟨_, _, _, _, _, _, kq⟩
theorem AlRep.off (h : AlRep q r r1 o w) (hn : o.o.ln = 0) : ∃ s g, (o.o.got = true → s = o.o.sl ∧ g = gW o.o.w) ∧ Bq q 167 [.nilIface, .int .i64 s, .int .u32 g, .bool false, .bool o.o.got] w := by
  rcases h with ⟨h, s, g, hg, k⟩ | ⟨pt, bt, cs, s, g, hp, h1, h2, kq, kr⟩ | ⟨h, g, kq, P⟩
  · exact ⟨s, g, hg, k⟩
  · exfalso; cases hp <;> omega
  · exfalso; omega
theorem FrRep.on (h : FrRep q r r1 f w) (hn : f.o.ln ≠ 0) : ∃ t v0 v1 v2 v3, Bq q 161 [.iface t v0, v1, v2, v3] w := by
  rcases h with ⟨h, _⟩ | ⟨pt, bt, cs, hp, kq, kr⟩ | ⟨h, kq, P⟩
  · exact absurd h hn
  · exact ⟨_, _, _, _, _, kq⟩
  · exact ⟨_, _, _, _, _, kq⟩
theorem FrRep.off (h : FrRep q r r1 f w) (hn : f.o.ln = 0) : ∃ s g, Bq q 161 [.nilIface, .int .i64 s, .int .u32 g, .int .u8 f.got] w := by
  rcases h with ⟨h, s, g, k⟩ | ⟨pt, bt, cs, hp, kq, kr⟩ | ⟨h, kq, P⟩
  · exact ⟨s, g, k⟩
  · exfalso; cases hp <;> omega
  · exfalso; omega
theorem PkX.keep {q r : Nat} {o : PO} {w w' : World} (h : PkX q r o w) (F : VX p b M w) (ho : Only p b w w') : PkX q r o w' := by
  rcases h with ⟨h, s, g, k⟩ | ⟨pt, bt, cs, hp, kq, kr⟩
  · exact .inl ⟨h, s, g, k.only F (by decide) ho⟩
  · exact .inr ⟨pt, bt, cs, hp, kq.only F (by decide) ho, kr.only F hp.ne.2.1 ho⟩
theorem AlRep.keep (h : AlRep q r r1 o w) (F : VX p b M w) (ho : Only p b w w') : AlRep q r r1 o w' := by
  rcases h with ⟨h, s, g, hg, k⟩ | ⟨pt, bt, cs, s, g, hp, h1, h2, kq, kr⟩ | ⟨h, g, kq, P⟩
  · exact .inl ⟨h, s, g, hg, k.only F (by decide) ho⟩
  · exact .inr (.inl ⟨pt, bt, cs, s, g, hp, h1, h2, kq.only F (by decide) ho, kr.only F hp.ne.2 ho⟩)
  · exact .inr (.inr ⟨h, g, kq.only F (by decide) ho, P.keep F ho⟩)
theorem FrRep.keep (h : FrRep q r r1 f w) (F : VX p b M w) (ho : Only p b w w') : FrRep q r r1 f w' := by
  rcases h with ⟨h, s, g, k⟩ | ⟨pt, bt, cs, hp, kq, kr⟩ | ⟨h, kq, P⟩
  · exact .inl ⟨h, s, g, k.only F (by decide) ho⟩
  · exact .inr (.inl ⟨pt, bt, cs, hp, kq.only F (by decide) ho, kr.only F hp.ne.2 ho⟩)
  · exact .inr (.inr ⟨h, kq.only F (by decide) ho, P.keep F ho⟩)
theorem alOver (h : AlRep q r r1 o w) : Calls Tryz.prog 58 #[.pointer (some ⟨q, 0, none⟩)] w fun e w' => e = .returned (.bool (o.o.ln == 0)) ∧ w' = w := by
  by_cases hn : o.o.ln = 0
  · obtain ⟨s, g, _, k⟩ := h.off hn
    rw [hn]
    exact overAlloc_yes k
  · obtain ⟨t, v0, v1, v2, v3, v4, k⟩ := h.on hn
    rw [fls hn]
    exact overAlloc_no k
theorem frOver (h : FrRep q r r1 f w) : Calls Tryz.prog 91 #[.pointer (some ⟨q, 0, none⟩)] w fun e w' => e = .returned (.bool (f.o.ln == 0)) ∧ w' = w := by
  by_cases hn : f.o.ln = 0
  · obtain ⟨s, g, k⟩ := h.off hn
    rw [hn]
    exact overFree_yes k
  · obtain ⟨t, v0, v1, v2, v3, k⟩ := h.on hn
    rw [fls hn]
    exact overFree_no k
/-- What an Alloc tells. -/
def refV (o : AX) : Value := if o.o.got = true then .agg #[.int .i64 o.o.sl, .int .u32 (gW o.o.w), .bool false] else .agg #[.int .i64 (-1), .int .u32 0, .bool false]
theorem alGot (h : AlRep q r r1 o w) (hg : o.o.got = true → o.o.ln = 0) : Calls Tryz.prog 53 #[.pointer (some ⟨q, 0, none⟩)] w fun e w' => e = .returned (.tuple #[refV o, .bool o.o.got]) ∧ Below w.heap.size w w' := by
  by_cases hgo : o.o.got = true
  · obtain ⟨s, g, h2, k⟩ := h.off (hg hgo)
    obtain ⟨rfl, rfl⟩ := h2 hgo
    rw [hgo] at k
    unfold refV
    rw [if_pos hgo, hgo]
    exact gotAlloc_yes k
  · have hf : o.o.got = false := by simpa using hgo
    unfold refV
    rw [if_neg hgo, hf]
    rcases h with ⟨h, s, g, _, k⟩ | ⟨pt, bt, cs, s, g, hp, h1, h2, kq, kr⟩ | ⟨h, g, kq, P⟩
    · rw [hf] at k; exact gotAlloc_no k
    · exact gotAlloc_no kq
    · exact gotAlloc_no kq
/-- An operation of one alone, as far as it has come. -/
structure Sole (W : World) (p b g q : Nat) (o : AX) (M : MV) (w : World) : Prop where
  rep : ∃ r r1, AlRep q r r1 o w ∧ g < r ∧ g < r1
  num : AlNum o
  mem : VX p b M w
  low : Onl p b [] W w
  gq : g < q
  old : W.heap.size ≤ g
  got : o.o.got = true → o.o.ln = 0
  res : Bq g 85 [.int .i64 0, .int .u32 0, .bool false] w
theorem alX_got {o : AX} {M : MV} (ok : AlNum o) (hM : ∀ x, U64 (M.V x)) (_ : o.o.got = true → o.o.ln = 0) : (alX o M).1.o.got = true → (alX o M).1.o.ln = 0 := by
  intro hg
  by_cases hn : o.o.ln = 0
  · have e : alX o M = (o, M) := by unfold alX; rw [if_neg (by omega), if_neg (by omega), if_neg (by omega), if_neg (by omega), if_neg (by omega), if_neg (by omega), if_neg (by omega)]
    rw [e]; exact hn
  · exact Classical.byContradiction fun hc => by rw [(ok.step hM).got hc] at hg; cases hg
theorem Sole.step (h : Sole W p b g q o M w) (h1 : 1 < W.heap.size) (hs : M.s.st < 1000000) :
    Calls Tryz.prog 52 #[.pointer (some ⟨q, 0, none⟩), .pointer (some ⟨p, 0, none⟩)] w fun e w' => e = .returned (.bool ((alX o M).1.o.ln == 0)) ∧ Sole W p b g q (alX o M).1 (alX o M).2 w' := by
  obtain ⟨⟨r, r1, hr, g1, g2⟩, hn, F, low, gq, old, got, res⟩ := h
  refine (alloc_stepX (by omega) (by omega) (by omega) F hs hn hr).mono ?_
  rintro e w' ⟨rfl, r', r1', k1, k2, k3, k4, k5⟩
  have hg := F.ne (by decide) res
  have hgs := res.lt
  refine ⟨rfl, ⟨r', r1', k1, by omega, by omega⟩, hn.step F.u64, k2, low.past k3 (fun x hx => ?_), gq, old, alX_got hn F.u64 got, res.onl k3 hg.1 hg.2 (fun hx => ?_)⟩
  · simp only [List.mem_cons, List.not_mem_nil, or_false] at hx
    omega
  · simp only [List.mem_cons, List.not_mem_nil, or_false] at hx
    omega
theorem Sole.begin {W w1 w2 : World} (F : VX p b M W) (hW : W.heap.size ≤ g) (hgw : g < w1.heap.size) (hb1 : Below W.heap.size W w1) (hg : Bq g 85 [.int .i64 0, .int .u32 0, .bool false] w1) (hr : w1.heap.size ≤ r) (hq : r < q) (k : Bq q 167 [.iface 164 (.pointer (some ⟨r, 0, none⟩)), .int .i64 0, .int .u32 0, .bool false, .bool false] w2) (o2 : OpAt 210 r 1 0 0 w2) (hb2 : Below w1.heap.size w1 w2) :
    Sole W p b g q ⟨newAl, 0⟩ M w2 :=
  ⟨⟨r, r, .inr (.inl ⟨_, _, _, _, _, .l1 rfl, fun hh => absurd rfl hh, fun hh => absurd (show (1 : Int) = 7 from hh) (by decide), k, o2⟩), by omega, by omega⟩, AlNum.new, F.below (hb1.trans (hb2.mono hb1.size)), .of_below (hb1.trans (hb2.mono hb1.size)), by omega, hW, fun h => (by cases h), hg.below hb2⟩
theorem Bq.s3 {t : TypeId} {c0 c1 c2 : Value} (k : Bq q t [c0, c1, c2] w) : w.cell? ⟨q, 0, none⟩ = some c0 ∧ w.cell? ⟨q, 1, none⟩ = some c1 ∧ w.cell? ⟨q, 2, none⟩ = some c2 ∧ w.frozen? ⟨q, 0, none⟩ = false ∧ w.frozen? ⟨q, 1, none⟩ = false ∧ w.frozen? ⟨q, 2, none⟩ = false := ⟨k.cell 0, k.cell 1, k.cell 2, k.free 0, k.free 1, k.free 2⟩
def fill3 (e : Nat) (d0 d1 d2 : Value) (W : World) : World := ((W.setCell ⟨e, 0, none⟩ d0).setCell ⟨e, 1, none⟩ d1).setCell ⟨e, 2, none⟩ d2
theorem Bq.fill3 {t : TypeId} {c0 c1 c2 d0 d1 d2 : Value} {e : Nat} (k : Bq e t [c0, c1, c2] w) : Bq e t [d0, d1, d2] (fill3 e d0 d1 d2 w) :=
  ((k.set 0 d0 (cs' := [d0, c1, c2]) rfl).set 1 d1 (cs' := [d0, d1, c2]) rfl).set 2 d2 rfl
theorem onl_fill3 {d0 d1 d2 : Value} (h : Onl p b [] W w) (hg : W.heap.size ≤ g) : Onl p b [] W (fill3 g d0 d1 d2 w) := by
  refine h.past (E := [g]) (((Onl.setCell w (by simp) 0 d0).trans (.setCell _ (by simp) 1 d1)).trans (.setCell _ (by simp) 2 d2)) (fun x hx => ?_)
  simp only [List.mem_cons, List.not_mem_nil, or_false] at hx
  omega
theorem vx_fill3 {d0 d1 d2 : Value} (F : VX p b M w) (h1 : g ≠ p) (h2 : g ≠ b) (h3 : 1 < g) : VX p b M (fill3 g d0 d1 d2 w) := ((F.setQ h1 h2 h3 0 d0).setQ h1 h2 h3 1 d1).setQ h1 h2 h3 2 d2
theorem ref_parts (o : AX) : ∃ s u : Int, refV o = .agg #[.int .i64 s, .int .u32 u, .bool false] := by
  unfold refV
  split
  · exact ⟨_, _, rfl⟩
  · exact ⟨_, _, rfl⟩
theorem results_two {P : Program} {fn : Func} {p0 q0 : Tmp} {ty : TypeId} (h : fn.results = #[.cell p0 ty, .tmp q0]) (tmps : Array Value) (w : World) (g : Nat) (t : TypeId) (cs : Array Value) (fr : Nat × Nat) (d : TypeDesc)
    (hp : tmps.getD p0 undef = .pointer (some ⟨g, 0, none⟩)) (hg : w.heap[g]? = some (.cells cs t fr))
    (hu : P.underlying ty = some d) (hd : (match d with | .struct _ | .array _ _ => true | _ => false) = true) (hi : (P.info? ty).map (·.size) = some cs.size) :
    (results fn tmps).run P w = .ok (.tuple #[.agg cs, tmps.getD q0 undef]) w := by
  have hp' : tmps[p0]?.getD undef = .pointer (some ⟨g, 0, none⟩) := by simpa using hp
  simp [results, h, hp', asAddr, run_loadVar_row w g t ty cs fr d hg hu hd hi]
set_option maxRecDepth 100000 in
set_option maxHeartbeats 4000000 in
theorem made_any (N : Nat) (hN : N ≤ 900) (F : VX p b M W) (hs : M.s.st < 900000) (hov : (iterA M N).1.o.ln = 0) (hgo : ∀ j, j < N → (iterA M j).1.o.ln ≠ 0) :
    Calls Tryz.prog 24 #[.pointer (some ⟨p, 0, none⟩)] W fun e w' => e = .returned (.tuple #[refV (iterA M N).1, .bool (iterA M N).1.o.got]) ∧ VX p b (iterA M N).2 w' ∧ Onl p b [] W w' := by
  have h1W : 1 < W.heap.size := by have := F.lay.1; have := F.laym.1; omega
  have hpw := F.lt
  have HF := Lib.hid F
  have HOV := Lib.hid hov
  have HGO := Lib.hid hgo
  have hbA : Below W.heap.size W (W.alloc (.cells #[.int .i64 0, .int .u32 0, .bool false] 85)) := (Below.refl _ _).alloc (Nat.le_refl _) _
  have hkA : Bq W.heap.size 85 [.int .i64 0, .int .u32 0, .bool false] (W.alloc (.cells #[.int .i64 0, .int .u32 0, .bool false] 85)) := Bq.new _ _ _
  have hsA : W.heap.size < (W.alloc (.cells #[.int .i64 0, .int .u32 0, .bool false] 85)).heap.size := hkA.lt
  have HBA := Lib.hid hbA
  have HKA := Lib.hid hkA
  have HSA := Lib.hid hsA
  clear F hov hgo hbA hkA hsA
  go_enter Tryz.func24, Tryz.ntmps24
  go_wp2_with fail
  ((with_reducible refine (newAlloc_any _).mono ?_); rintro e w1 ⟨q, r, rfl, hr, hq, hk, ho, hb⟩)
  have HS := Lib.hid (show Sole W p b W.heap.size q (iterA M 0).1 (iterA M 0).2 w1 from Sole.begin HF.out (Nat.le_refl _) HSA.out HBA.out HKA.out hr hq hk ho hb)
  clear hr hq hk ho hb HBA HKA HSA HF
  generalize W.heap.size = g at HS
  go_wp2_with fail
  go_loopw [5] (fun j wr => ∃ i : Nat, i ≤ N ∧ j = .int .i64 (i : Int) ∧ Hid (Sole W p b g q (iterA M i).1 (iterA M i).2 wr)) (fun j _ => N - (intOf j).toNat)
  case atStart => exact ⟨0, Nat.zero_le _, rfl, HS⟩
  case round =>
    clear HS
    obtain ⟨i, hi, rfl, hr⟩ := hrel
    have hge : (0 : Int) ≤ (i : Int) := by omega
    have hlt : (i : Int) < 1000 := by omega
    have hst := iterA_st M i
    obtain ⟨r', r1', hrep, _, _⟩ := hr.out.rep
    have HV := Lib.hid hrep
    by_cases hin : i < N
    · have hln := fls (HGO.out i hin)
      have hov2 := alOver HV.out
      rw [hln] at hov2
      have hst2 : (iterA M i).2.s.st < 1000000 := by omega
      clear hrep hln
      go_wp2_with fail
      ((with_reducible refine hov2.mono ?_); rintro e w2 ⟨rfl, rfl⟩)
      go_wp2_with fail
      ((with_reducible refine (hr.out.step h1W hst2).mono ?_); rintro e w3 ⟨rfl, h3⟩)
      have HS3 := Lib.hid (show Sole W p b g q (iterA M (i + 1)).1 (iterA M (i + 1)).2 w3 from h3)
      clear h3 hov2 hst hst2 HV
      generalize ((alX (iterA M i).1 (iterA M i).2).1.o.ln == 0) = bb
      go_wp2_with fail
      go_roundw
      case rel => exact ⟨i + 1, by omega, by go_num, HS3⟩
      case measure => simp [intOf]; omega
    · have hiN : i = N := by omega
      have hov2 := alOver HV.out
      rw [hiN, HOV.out] at hov2
      have hr2 := hr.out
      rw [hiN] at hr2
      have HR := Lib.hid hr2
      have hgot := alGot (h := by have := HV.out; rw [hiN] at this; exact this) hr2.got
      have HFI := Lib.hid (show (.tuple #[refV (iterA M N).1, .bool (iterA M N).1.o.got] : Value) = .tuple #[refV (iterA M N).1, .bool (iterA M N).1.o.got] from rfl)
      obtain ⟨s, u, hsu⟩ := ref_parts (iterA M N).1
      rw [hsu] at hgot
      have HSU := Lib.hid hsu
      clear hrep hr hr2 hst HV hsu HFI
      go_wp2_with fail
      ((with_reducible refine hov2.mono ?_); rintro e w2 ⟨rfl, rfl⟩)
      go_wp2_with fail
      ((with_reducible refine hgot.mono ?_); rintro e w3 ⟨rfl, hb3⟩)
      have hres := HR.out.res.below hb3
      have HFX := Lib.hid (HR.out.mem.below hb3)
      have HLO := Lib.hid (HR.out.low.trans (.of_below hb3))
      have hne := HFX.out.ne (by decide) hres
      have HNE := Lib.hid hne
      have HOLD := Lib.hid HR.out.old
      obtain ⟨b0, b1, b2, z0, z1, z2⟩ := Bq.s3 hres
      have HK := Lib.hid (hres.fill3 (d0 := .int .i64 s) (d1 := .int .u32 u) (d2 := .bool false))
      clear hres hb3 hne hov2 hgot
      go_wp2_with fail
      refine bodyPost_ret (results_two Tryz.results24 _ _ _ _ _ _ _ rfl HK.out Tryz.underlying85 rfl (by kernel_rfl)) rfl ⟨?_, vx_fill3 HFX.out HNE.out.1 HNE.out.2 (by have := HOLD.out; omega), onl_fill3 HLO.out HOLD.out⟩
      rw [HSU.out]
      rfl
end
end Go.Proofs.YtmjcbjcnmgleaaaGreatDoor
namespace Go.Proofs.YtmjcbjcnmgleaaaGreatDoor
open Go.RowKit Go.Maps

section
variable {M : MV} {S : List Int} {s T : Int}
theorem made_ma (h : Stk (maV M.V).ms (s :: S) T) : maV (madeM M s (topOf S)).V = MA.setH { maV M.V with ms := ⟨headW (topOf S) (T + 1), (maV M.V).ms.lk⟩ } s (headerW 1 (gW ((maV M.V).hdr s))) := by
  obtain ⟨hs, _⟩ := alone_top h
  rw [made_V h, ma_setH hs, ma_setB hs, ma_head, ma_hdr hs]
theorem made_stk (h : Stk (maV M.V).ms (s :: S) T) (ht : T + 1 < 1000000) : Stk (maV (madeM M s (topOf S)).V).ms S (T + 1) := by
  rw [made_ma h]
  exact h.popped ht
theorem made_era (h : Stk (maV M.V).ms (s :: S) T) : (madeM M s (topOf S)).V adEr = M.V adEr ∧ (madeM M s (topOf S)).V (adB s) = M.V adEr ∧ (madeM M s (topOf S)).s.st = M.s.st + 8 := by
  obtain ⟨hs, _⟩ := alone_top h
  refine ⟨?_, ?_, ?_⟩
  · rw [made_V h, setV_other (er_neS hs).2.1, setV_other (er_neS hs).2.2, setV_other er_ne]
  · rw [made_V h, setV_other (ss_ne hs hs).2.2.2.2.2.2, setV_same (may_B hs)]
  · show M.s.st + 1 + 1 + 1 + 1 + 1 + 1 + 1 + 1 = _
    omega
theorem freed_ma (h : Stk (maV M.V).ms S T) (hx : s ∉ S) (hs : 0 ≤ s ∧ s < 256) (ht : T + 1 < 1000000) (hd : (maV M.V).sst (segF s) ≠ 2) {m : Int} (hm : gW (M.V (adH s)) < m) :
    (maV (freedM M s).V).hdr = ((maV M.V).setH s (headerW 0 (gW ((maV M.V).hdr s) + 1))).hdr ∧ (maV (freedM M s).V).sst = (maV M.V).sst ∧ (maV (freedM M s).V).spk = (maV M.V).spk ∧ (freedM M s).V adEr = M.V adEr := by
  obtain ⟨_, _, _, _, e⟩ := free_alone h hx hs ht hd hm
  have e2 : maV (freedM M s).V = { { (maV M.V).setH s (headerW 0 (gW ((maV M.V).hdr s) + 1)) with ms := ((maV M.V).setH s (headerW 0 (gW ((maV M.V).hdr s) + 1))).ms.link s (headW (wSlot (M.V adF)) 0) } with ms := ⟨nextW (M.V adF) s, (((maV M.V).setH s (headerW 0 (gW ((maV M.V).hdr s) + 1))).ms.link s (headW (wSlot (M.V adF)) 0)).lk⟩ } := by
    rw [e, ma_head, ma_link hs, ma_setH hs, ma_hdr hs]
  refine ⟨by rw [e2], by rw [e2]; rfl, by rw [e2]; rfl, ?_⟩
  rw [e, setV_other er_ne, setV_other (er_neS hs).1, setV_other (er_neS hs).2.1]
end
/-- A Free of one alone, as far as it has come. -/
structure SoleF (W : World) (p b q : Nat) (f : FX) (M : MV) (w : World) : Prop where
  rep : ∃ r r1, FrRep q r r1 f w ∧ W.heap.size ≤ r ∧ W.heap.size ≤ r1
  num : FrNum f
  mem : VX p b M w
  low : Onl p b [] W w
  old : W.heap.size ≤ q
section
variable {p b q r : Nat} {f : FX} {M : MV} {W w w' X Y : World}
theorem SoleF.step (h : SoleF W p b q f M w) (h1 : 1 < W.heap.size) (hs : M.s.st < 1000000) :
    Calls Tryz.prog 54 #[.pointer (some ⟨q, 0, none⟩), .pointer (some ⟨p, 0, none⟩)] w fun e w' => e = .returned (.bool ((frX f M).1.o.ln == 0)) ∧ SoleF W p b q (frX f M).1 (frX f M).2 w' := by
  obtain ⟨⟨r, r1, hr, g1, g2⟩, hn, F, low, old⟩ := h
  refine (free_stepX (by omega) (by omega) (by omega) F hs hn hr).mono ?_
  rintro e w' ⟨rfl, r', r1', k1, k2, k3, k4, k5⟩
  have := low.size
  refine ⟨rfl, ⟨r', r1', k1, by omega, by omega⟩, hn.step F.u64, k2, low.past k3 (fun x hx => ?_), old⟩
  simp only [List.mem_cons, List.not_mem_nil, or_false] at hx
  omega
theorem SoleF.begin {s m : Int} (h0 : 0 ≤ s) (h1 : s < 256) (hm : 0 ≤ m ∧ m < 4294967296) (F : VX p b M W) (hr : W.heap.size ≤ r) (hq : r < q) (k : Bq q 161 [.iface 162 (.pointer (some ⟨r, 0, none⟩)), .int .i64 s, .int .u32 m, .int .u8 0] w) (k2 : Bq r 209 [.int .u8 9, .int .i64 s, .int .i64 0, .int .u64 0] w) (hb : Below W.heap.size W w) :
    SoleF W p b q ⟨newFr s m, 0⟩ M w :=
  ⟨⟨r, r, .inr (.inl ⟨_, _, _, .l1 rfl, k, k2⟩), by omega, by omega⟩, FrNum.new ⟨h0, h1⟩ hm, F.below hb, .of_below hb, by omega⟩
theorem SoleF.over (h : SoleF W p b q f M w) : Calls Tryz.prog 91 #[.pointer (some ⟨q, 0, none⟩)] w fun e w' => e = .returned (.bool (f.o.ln == 0)) ∧ w' = w := by
  obtain ⟨r, r1, hr, _⟩ := h.rep
  exact frOver hr
theorem vx_storeE (F : VX p b M w) (hs : M.s.st < 1000000) :
    Calls Tryz.prog 32 #[.pointer (some ⟨p, 0, none⟩), .agg #[.int .u8 2, .int .i64 0, .int .i64 0], .int .u64 5] w fun e w' => e = .returned (.tuple #[]) ∧ VX p b (stM M adEr 5) w' ∧ Only p b w w' :=
  F.store hs adEr 5 ⟨by decide, by decide⟩
theorem vx_loadB3 (F : VX p b M w) (hs : M.s.st < 1000000) :
    Calls Tryz.prog 60 #[.pointer (some ⟨p, 0, none⟩), .agg #[.int .u8 9, .int .i64 3, .int .i64 1]] w fun e w' => e = .returned (.int .u64 (M.V (adB 3))) ∧ VX p b (ldM M (adB 3)) w' ∧ Only p b w w' := by
  have := F.load hs (adB 3)
  have h := slot_i64 (show 0 ≤ (3 : Int) ∧ (3 : Int) < 256 by decide)
  rw [(adB_at h).1, (adB_at h).2.1, (adB_at h).2.2] at this
  exact this
end
/-- The examples' memory behind i Allocs. -/
structure Liv (i : Nat) (M : MV) : Prop where
  stk : Stk (maV M.V).ms (downS (8 - i)) (8 + i)
  hdr : ∀ z : Int, 0 ≤ z → z < 8 - i → (maV M.V).hdr z = 0
  own : 1 ≤ i → (maV M.V).hdr (8 - i) = headerW 1 0
  sst : (maV M.V).sst 0 = 1
  era : M.V adEr = 5
  st : M.s.st = 26 + 8 * i
theorem liv0 {M : MV} (h : Beg 8 1 M) : Liv 0 (stM M adEr 5) := by
  have e : maV (setV M.V adEr 5) = maV M.V := by
    refine ma_ext (setV_other er_ne.symm 5) (fun _ => if_same' fun hk => setV_other (er_neS hk).1.symm 5) (fun _ => if_same' fun hk => setV_other (er_neS hk).2.1.symm 5) (fun _ => if_same' fun hg => setV_other (er_neG hg).1.symm 5) (fun _ => if_same' fun hg => setV_other (er_neG hg).2.symm 5)
  refine ⟨?_, fun z _ _ => ?_, fun h => by omega, ?_, setV_same (V := M.V) (x := adEr) (by decide) 5, ?_⟩
  · show Stk (maV (setV M.V adEr 5)).ms _ _
    rw [e]; exact h.stk
  · show (maV (setV M.V adEr 5)).hdr z = 0
    rw [e]; exact h.hdr z
  · show (maV (setV M.V adEr 5)).sst 0 = 1
    rw [e]; exact h.sst 0 (by decide) (by decide)
  · show M.s.st + 1 = _
    rw [h.st]
    rfl
theorem gW_zero : gW 0 = 0 := by decide
theorem liv_next {i : Nat} {M : MV} (h : Liv i M) (hi : i < 5) : ∃ o, iterA M 8 = (o, madeM M (7 - i) (topOf (downS (7 - i)))) ∧ (∀ j, j < 8 → (iterA M j).1.o.ln ≠ 0) ∧ o.o.ln = 0 ∧ o.o.got = true ∧ refV o = .agg #[.int .i64 (7 - i), .int .u32 0, .bool false] ∧ Liv (i + 1) (madeM M (7 - i) (topOf (downS (7 - i)))) ∧ (madeM M (7 - i) (topOf (downS (7 - i)))).V (adB (7 - i)) = 5 := by
  have hd : downS (8 - i) = ((7 - i : Nat) : Int) :: downS (7 - i) := by rw [show 8 - i = (7 - i) + 1 by omega]; rfl
  have hc : ((7 - i : Nat) : Int) = 7 - (i : Int) := by omega
  have hst := h.stk
  rw [hd, hc] at hst
  have hseg : segF (7 - (i : Int)) = 0 := by unfold segF; omega
  have hsst : (maV M.V).sst (segF (7 - (i : Int))) ≠ 2 := by rw [hseg, h.sst]; decide
  obtain ⟨e, h1, h2⟩ := made_alone hst hsst
  have hs := (alone_top hst).1
  have hh := h.hdr (7 - i) (by omega) (by omega)
  have hh' : M.V (adH (7 - i)) = 0 := by rw [← hh, ma_hdr hs]
  obtain ⟨m1, m2, m3⟩ := made_era hst
  refine ⟨_, h1, h2, rfl, rfl, ?_, ?_, m2.trans h.era⟩
  · unfold refV
    rw [if_pos rfl]
    show (.agg #[.int .i64 (7 - i), .int .u32 (gW (M.V (adH (7 - i)))), .bool false] : Value) = _
    rw [hh', gW_zero]
  · refine ⟨?_, fun z h0 h1 => ?_, fun _ => ?_, ?_, m1.trans h.era, ?_⟩
    · have := made_stk hst (by omega)
      rw [show (8 : Int) + ((i + 1 : Nat) : Int) = 8 + i + 1 by omega, show 8 - (i + 1) = 7 - i by omega]
      exact this
    · rw [made_ma hst]
      show (if z = 7 - (i : Int) then _ else (maV M.V).hdr z) = 0
      rw [if_neg (by omega)]
      exact h.hdr z h0 (by omega)
    · rw [made_ma hst]
      show (if (8 : Int) - ((i + 1 : Nat) : Int) = 7 - (i : Int) then headerW 1 (gW ((maV M.V).hdr (7 - i))) else _) = _
      rw [if_pos (by omega), hh, gW_zero]
    · rw [made_ma hst]; exact h.sst
    · rw [m3, h.st]; omega
theorem eq_ref3 (g : Int) (w : World) : (binOp .eql 85 (.agg #[.int .i64 3, .int .u32 g, .bool false]) (.agg #[.int .i64 3, .int .u32 g, .bool false])).run Tryz.prog w = .ok (.bool true) w := by
  have hS : Tryz.prog.underlying 85 = some (.struct (Tryz.prog.fieldsOf 85)) := by kernel_rfl
  have hp : Tryz.prog.stoodInHeld 85 = false := by kernel_rfl
  rw [run_eql_struct, show (10000 : Nat) = 9999 + 1 from rfl, run_equalIn_agg w 9999 85 _ _ hS hp]
  simp only [Program.fieldsOf, Tryz.underlying85]
  have u3 := Tryz.underlying3
  have a3 := Tryz.isAgg3
  have z3 := Tryz.sizeOf3
  have u4 := Tryz.underlying67
  have a4 := Tryz.isAgg67
  have z4 := Tryz.sizeOf67
  have u5 := Tryz.underlying4
  have a5 := Tryz.isAgg4
  have z5 := Tryz.sizeOf4
  go_simp
end Go.Proofs.YtmjcbjcnmgleaaaGreatDoor
