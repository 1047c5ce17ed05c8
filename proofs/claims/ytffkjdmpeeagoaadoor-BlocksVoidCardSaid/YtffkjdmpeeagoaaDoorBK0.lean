/-
  Package blocks: the edge that both operations embed: whether it is over, how it ended, blocks counted, their number changed, a block turned; condition: the operation and the memory lie as they say, numbers of their kinds.
  Package blocks, line by line: what each line of a More and of a Less does; condition: the operation and the memory lie as they say, numbers of their kinds.
-/
import Derived.Test.YtffkjdmpeeagoaaDoorTB4
import Derived.Test.YtffkjdmpeeagoaaDoorBP1
namespace Go.Proofs.YtffkjdmpeeagoaaDoor
open Go.RowKit Go.Maps

/-- The edge's cells. -/
def KC (nx bs bl en : Int) : List Value := [.int .i64 nx, .int .u64 bs, .int .i64 bl, .int .i64 en]
section
variable {p b q : Nat} {T : TypeId} {nx bs bl en n v nx' bs' bl' en' : Int} {c : Bool} {M M' : MV} {w w' X : World}
theorem Bq.kc (k : Bq q T (KC nx bs bl en) w) : w.cell? ⟨q, 0, none⟩ = some (.int .i64 nx) ∧ w.cell? ⟨q, 1, none⟩ = some (.int .u64 bs) ∧ w.cell? ⟨q, 2, none⟩ = some (.int .i64 bl) ∧ w.cell? ⟨q, 3, none⟩ = some (.int .i64 en) ∧ ∀ i, w.frozen? ⟨q, i, none⟩ = false := ⟨k.cell 0, k.cell 1, k.cell 2, k.cell 3, k.free⟩
theorem overE (k : Bq q T (KC nx bs bl en) w) : Calls Tryd.prog 48 #[.pointer (some ⟨q, 0, none⟩)] w fun e w' => e = .returned (.bool (nx == 0)) ∧ w' = w := by
  obtain ⟨c0, c1, c2, c3, _⟩ := k.kc
  clear k c1 c2 c3
  go_enter Tryd.func48, Tryd.ntmps48
  go_wp2_with fail
  go_ret
  exact ⟨rfl, rfl⟩
theorem gotEd (k : Bq q T (KC nx bs bl en) w) : Calls Tryd.prog 49 #[.pointer (some ⟨q, 0, none⟩)] w fun e w' => e = .returned (.int .i64 (gotE nx en)) ∧ w' = w := by
  obtain ⟨c0, _, _, c3, _⟩ := k.kc
  have HK := Lib.hid k
  unfold gotE
  by_cases h : nx = 0
  · subst h
    clear k c0
    go_enter Tryd.func49, Tryd.ntmps49
    go_wp2_with fail
    ((with_reducible refine (overE HK.out).mono ?_); rintro ee w1 ⟨rfl, rfl⟩)
    go_wp2_with fail
    go_ret
    exact ⟨rfl, rfl⟩
  · have hz : (nx == 0) = false := beq_eq_false_iff_ne.2 h
    rw [if_neg h]
    clear k c0 h
    go_enter Tryd.func49, Tryd.ntmps49
    go_wp2_with fail
    ((with_reducible refine (overE HK.out).mono ?_); rintro ee w1 ⟨rfl, rfl⟩)
    go_wp2_with fail
    go_ret
    exact ⟨rfl, rfl⟩
theorem endE (k : Bq q T (KC nx bs bl en) w) : Calls Tryd.prog 95 #[.pointer (some ⟨q, 0, none⟩), .int .i64 n] w fun e w' => e = .returned (.int .i64 0) ∧ w' = w.setCell ⟨q, 3, none⟩ (.int .i64 n) := by
  obtain ⟨c0, _, _, c3, hz⟩ := k.kc
  have z3 := hz 3
  clear k c0 hz
  go_enter Tryd.func95, Tryd.ntmps95
  go_wp2_with fail
  go_ret
  exact ⟨rfl, rfl⟩
theorem bq_onlyB (k : Bq q T (KC nx bs bl en) w) (F : VX p b M w) (hT : T ≠ 109) (o : Only p b w w') : Bq q T (KC nx bs bl en) w' := by
  obtain ⟨h1, h2⟩ := F.ne hT k
  exact k.same (o.block q k.lt h1 h2)
/-- Behind a step: the memory, the operation, what is left alone. -/
structure AtB (p b q : Nat) (T : TypeId) (nx bs bl en : Int) (M : MV) (w0 w : World) : Prop where
  f : VX p b M w
  k : Bq q T (KC nx bs bl en) w
  o : Onl p b [q] w0 w
theorem AtB.start (F : VX p b M w) (k : Bq q T (KC nx bs bl en) w) : AtB p b q T nx bs bl en (M) w w := ⟨F, k, .refl _⟩
theorem AtB.below (h : AtB p b q T nx bs bl en (M) w X) (hb : Below X.heap.size X w') : AtB p b q T nx bs bl en (M) w w' := ⟨h.f.below hb, h.k.below hb, h.o.trans (.of_below hb)⟩
theorem AtB.mem (h : AtB p b q T nx bs bl en (M) w X) (hT : T ≠ 109) (F : VX p b M' w') (o : Only p b X w') : AtB p b q T nx bs bl en (M') w w' := ⟨F, bq_onlyB h.k h.f hT o, h.o.trans (.of_only o)⟩
theorem AtB.set (h : AtB p b q T nx bs bl en (M) w X) (hT : T ≠ 109) (hq : 1 < q) (i : Nat) (v : Value) (e : KC nx' bs' bl' en' = (KC nx bs bl en).set i v) : AtB p b q T nx' bs' bl' en' M w (X.setCell ⟨q, i, none⟩ v) := by
  obtain ⟨h1, h2⟩ := h.f.ne hT h.k
  exact ⟨h.f.setQ h1 h2 hq i v, h.k.set i v e, h.o.trans (.setCell _ (by simp) i v)⟩
theorem AtB.trans {w0 : World} (h : AtB p b q T nx bs bl en (M) X w') (o : Onl p b [q] w0 X) : AtB p b q T nx bs bl en (M) w0 w' := ⟨h.f, h.k, o.trans h.o⟩
/-- How many blocks there are, read. -/
theorem countE (hT : T ≠ 109) (hq : 1 < q) (F : VX p b M w) (hs : M.s.st < 1000000) (k : Bq q T (KC nx bs bl en) w) (hv : M.V adN = v) :
    Calls Tryd.prog 94 #[.pointer (some ⟨q, 0, none⟩), .pointer (some ⟨p, 0, none⟩)] w fun e w' => e = .returned (.int .u64 v) ∧ AtB p b q T nx v bl en (ldM M adN) w w' := by
  have HA := Lib.hid (AtB.start F k)
  clear F k
  go_enter Tryd.func94, Tryd.ntmps94
  go_wp2_with fail
  ((with_reducible refine (HA.out.f.ldA hs adN_at hv).mono ?_); rintro ee w1 ⟨rfl, F1, o1⟩)
  have HA1 := Lib.hid (HA.out.mem hT F1 o1)
  obtain ⟨c0, c1, c2, c3, hz⟩ := HA1.out.k.kc
  have z1 := hz 1
  clear HA F1 o1 hz
  go_wp2_with fail
  go_ret
  exact ⟨rfl, HA1.out.set hT hq 1 (.int .u64 v) rfl⟩
/-- How many there are, changed. -/
theorem changeE (hT : T ≠ 109) (F : VX p b M w) (hs : M.s.st < 1000000) (k : Bq q T (KC nx bs bl en) w) (hn : U64 n) (hc : casV M.V adN bs = c) :
    Calls Tryd.prog 96 #[.pointer (some ⟨q, 0, none⟩), .pointer (some ⟨p, 0, none⟩), .int .u64 n] w fun e w' => e = .returned (.bool c) ∧ AtB p b q T nx bs bl en (csM M adN bs n) w w' := by
  have HA := Lib.hid (AtB.start F k)
  have c1 := k.kc.2.1
  clear F k
  go_enter Tryd.func96, Tryd.ntmps96
  go_wp2_with fail
  ((with_reducible refine (HA.out.f.csA hs adN_at hn hc).mono ?_); rintro ee w1 ⟨rfl, F1, o1⟩)
  have HA1 := Lib.hid (HA.out.mem hT F1 o1)
  clear HA F1 o1
  go_wp2_with fail
  go_ret
  exact ⟨rfl, HA1.out⟩
end
end Go.Proofs.YtffkjdmpeeagoaaDoor
namespace Go.Proofs.YtffkjdmpeeagoaaDoor
open Go.RowKit Go.Maps

section
variable {p b q : Nat} {T : TypeId} {nx bs bl en n v nx' bs' bl' en' : Int} {c : Bool} {M M' : MV} {w w' X : World}
theorem block_lo (j : Int) (c : Bool) (w : World) (hL : Lay w) (hj : U64 j) : Calls Tryd.prog 33 #[.int .u32 j, .bool c] w fun e w' => e = .returned (.int .u64 (blockW j c)) ∧ Below w.heap.size w w' := by
  refine (block_any j c w hL hj).mono ?_
  rintro e w' ⟨rfl, n, rfl⟩
  exact ⟨rfl, below_drewN' (Below.refl _ w) n⟩
set_option maxHeartbeats 2000000 in
theorem turn_open (hT : T ≠ 109) (F : VX p b M w) (hs : M.s.st < 1000000) (k : Bq q T (KC nx bs bl en) w) (hb : 0 ≤ bl ∧ bl < 4) (hc : casV M.V (adK bl) cldW = c) :
    Calls Tryd.prog 97 #[.pointer (some ⟨q, 0, none⟩), .pointer (some ⟨p, 0, none⟩), .bool false] w fun e w' => e = .returned (.bool c) ∧ AtB p b q T nx bs bl en (csM M (adK bl) cldW opnW) w w' := by
  have HA := Lib.hid (AtB.start F k)
  have HC := Lib.hid (show casV M.V (adK bl) (blockW 0 true) = c from hc)
  have HA1 := Lib.hid (HA.out.below (Below.refl _ w).drew)
  have hs0 := Lib.hid HA1.out.k.kc.2.2.1
  have hu0 : U64 (0 : Int) := u64_0'
  have c2 := k.kc.2.2.1
  clear F k hc
  go_enter Tryd.func97, Tryd.ntmps97
  go_wp2_with fail
  go_region_held3 (fun w9 => w9.cell? ⟨q, 2, none⟩ = some (.int .i64 bl))
    (first | exact hs0.out | exact hs1.out | exact hs2.out | exact hs3.out | fail)
    (first
      | (go_at_call 33; (with_reducible refine (block_lo 0 true _ HA1.out.f.lay hu0).mono ?_); rintro ee wA ⟨rfl, hbA⟩; have HA2 := Lib.hid (HA1.out.below hbA); have hs1 := Lib.hid HA2.out.k.kc.2.2.1; clear hbA)
      | (go_at_call 33; (with_reducible refine (block_lo 0 false _ HA2.out.f.lay hu0).mono ?_); rintro ee wB ⟨rfl, hbB⟩; have HA3 := Lib.hid (HA2.out.below hbB); have hs2 := Lib.hid HA3.out.k.kc.2.2.1; clear hbB)
      | (go_at_call 104; (with_reducible refine (HA3.out.f.csA hs (adK_at hb) (blockW_u64 _ _) HC.out).mono ?_); rintro ee wC ⟨rfl, F5, o5⟩; have HA5 := Lib.hid (HA3.out.mem hT F5 o5); have hs3 := Lib.hid HA5.out.k.kc.2.2.1; clear F5 o5)
      | fail)
  go_wp2_with fail
  go_ret
  exact ⟨rfl, HA5.out⟩
set_option maxHeartbeats 2000000 in
theorem turn_shut (hT : T ≠ 109) (F : VX p b M w) (hs : M.s.st < 1000000) (k : Bq q T (KC nx bs bl en) w) (hb : 0 ≤ bl ∧ bl < 4) (hc : casV M.V (adK bl) opnW = c) :
    Calls Tryd.prog 97 #[.pointer (some ⟨q, 0, none⟩), .pointer (some ⟨p, 0, none⟩), .bool true] w fun e w' => e = .returned (.bool c) ∧ AtB p b q T nx bs bl en (csM M (adK bl) opnW cldW) w w' := by
  have HA := Lib.hid (AtB.start F k)
  have HC := Lib.hid (show casV M.V (adK bl) (blockW 0 false) = c from hc)
  have HA1 := Lib.hid (HA.out.below (Below.refl _ w).drew)
  have hs0 := Lib.hid HA1.out.k.kc.2.2.1
  have hu0 : U64 (0 : Int) := u64_0'
  have c2 := k.kc.2.2.1
  clear F k hc
  go_enter Tryd.func97, Tryd.ntmps97
  go_wp2_with fail
  go_region_held3 (fun w9 => w9.cell? ⟨q, 2, none⟩ = some (.int .i64 bl))
    (first | exact hs0.out | exact hs1.out | exact hs2.out | exact hs3.out | fail)
    (first
      | (go_at_call 33; (with_reducible refine (block_lo 0 false _ HA1.out.f.lay hu0).mono ?_); rintro ee wA ⟨rfl, hbA⟩; have HA2 := Lib.hid (HA1.out.below hbA); have hs1 := Lib.hid HA2.out.k.kc.2.2.1; clear hbA)
      | (go_at_call 33; (with_reducible refine (block_lo 0 true _ HA2.out.f.lay hu0).mono ?_); rintro ee wB ⟨rfl, hbB⟩; have HA3 := Lib.hid (HA2.out.below hbB); have hs2 := Lib.hid HA3.out.k.kc.2.2.1; clear hbB)
      | (go_at_call 104; (with_reducible refine (HA3.out.f.csA hs (adK_at hb) (blockW_u64 _ _) HC.out).mono ?_); rintro ee wC ⟨rfl, F5, o5⟩; have HA5 := Lib.hid (HA3.out.mem hT F5 o5); have hs3 := Lib.hid HA5.out.k.kc.2.2.1; clear F5 o5)
      | fail)
  go_wp2_with fail
  go_ret
  exact ⟨rfl, HA5.out⟩
set_option maxHeartbeats 2000000 in
theorem room_full (hT : T ≠ 109) (hq : 1 < q) (F : VX p b M w) (hs : M.s.st < 1000000) (k : Bq q T (KC nx bs bl en) w) (hv : M.V adN = v) (h0 : 4 ≤ v) :
    Calls Tryd.prog 73 #[.pointer (some ⟨q, 0, none⟩), .pointer (some ⟨p, 0, none⟩)] w fun e w' => e = .returned (.int .i64 0) ∧ AtB p b q T nx v bl 5 (ldM M adN) w w' := by
  have HV := Lib.hid hv
  clear hv
  have HA := Lib.hid (AtB.start F k)
  have HQ := Lib.hid hq
  go_enter Tryd.func73, Tryd.ntmps73
  go_wp2_with fail
  ((with_reducible refine (countE hT HQ.out HA.out.f hs HA.out.k HV.out).mono ?_); rintro ee w1 ⟨rfl, A1⟩)
  have HA1 := Lib.hid A1
  obtain ⟨c0, c1, c2, c3, hz⟩ := A1.k.kc
  have z2 := hz 2
  clear A1 HA hz
  go_wp2_with fail
  ((with_reducible refine (endE HA1.out.k).mono ?_); rintro ee w2 ⟨rfl, rfl⟩)
  go_wp2_with fail
  go_ret
  exact ⟨rfl, HA1.out.set hT HQ.out 3 (.int .i64 5) rfl⟩
set_option maxHeartbeats 2000000 in
theorem room_on (hT : T ≠ 109) (hq : 1 < q) (F : VX p b M w) (hs : M.s.st < 1000000) (k : Bq q T (KC nx bs bl en) w) (hv : M.V adN = v) (h0 : 0 ≤ v) (h1 : v < 4) :
    Calls Tryd.prog 73 #[.pointer (some ⟨q, 0, none⟩), .pointer (some ⟨p, 0, none⟩)] w fun e w' => e = .returned (.int .i64 3) ∧ AtB p b q T nx v v en (ldM M adN) w w' := by
  have HV := Lib.hid hv
  clear hv
  have h2 : ¬ 4 ≤ v := by omega
  have hw := wrap_small (x := v) h0 (by omega)
  have HA := Lib.hid (AtB.start F k)
  have HQ := Lib.hid hq
  go_enter Tryd.func73, Tryd.ntmps73
  go_wp2_with fail
  ((with_reducible refine (countE hT HQ.out HA.out.f hs HA.out.k HV.out).mono ?_); rintro ee w1 ⟨rfl, A1⟩)
  have HA1 := Lib.hid A1
  obtain ⟨c0, c1, c2, c3, hz⟩ := A1.k.kc
  have z2 := hz 2
  clear A1 HA hz
  go_wp2_with fail
  go_ret
  exact ⟨rfl, HA1.out.set hT HQ.out 2 (.int .i64 v) rfl⟩
set_option maxHeartbeats 2000000 in
theorem raise_true (hT : T ≠ 109) (hq : 1 < q) (F : VX p b M w) (hs : M.s.st < 1000000) (k : Bq q T (KC nx bs bl en) w) (h0 : 0 ≤ bs) (h1 : bs < 4) (hc : casV M.V adN bs = true) :
    Calls Tryd.prog 74 #[.pointer (some ⟨q, 0, none⟩), .pointer (some ⟨p, 0, none⟩)] w fun e w' => e = .returned (.int .i64 1) ∧ AtB p b q T nx bs bl en (csM M adN bs (bs + 1)) w w' := by
  have HC := Lib.hid hc
  have hu : U64 (bs + 1) := ⟨by omega, by omega⟩
  have hw := wrap64 (x := bs + 1) (by omega) (by omega)
  clear hc
  have HA := Lib.hid (AtB.start F k)
  have HQ := Lib.hid hq
  go_enter Tryd.func74, Tryd.ntmps74
  have c1 := k.kc.2.1
  have HAD := Lib.hid (HA.out.below (Below.refl _ w).drew)
  have hs0 := Lib.hid HAD.out.k.kc.2.1
  clear F k HA
  go_wp2_with fail
  go_region_held3 (fun w9 => w9.cell? ⟨q, 1, none⟩ = some (.int .u64 bs))
    (first | exact hs0.out | exact hs1.out | fail)
    (first
      | (go_at_call 96; (with_reducible refine (changeE (n := bs + 1) hT HAD.out.f hs HAD.out.k hu HC.out).mono ?_); rintro ee w1 ⟨rfl, A1⟩; have HA1 := Lib.hid (A1.trans HAD.out.o); have hs1 := Lib.hid A1.k.kc.2.1; have z3 := A1.k.free 3; have c3 := A1.k.kc.2.2.2.1; clear A1)
      | fail)
  go_wp2_with fail
  go_ret
  exact ⟨rfl, HA1.out⟩
set_option maxHeartbeats 2000000 in
theorem raise_false (hT : T ≠ 109) (hq : 1 < q) (F : VX p b M w) (hs : M.s.st < 1000000) (k : Bq q T (KC nx bs bl en) w) (h0 : 0 ≤ bs) (h1 : bs < 4) (hc : casV M.V adN bs = false) :
    Calls Tryd.prog 74 #[.pointer (some ⟨q, 0, none⟩), .pointer (some ⟨p, 0, none⟩)] w fun e w' => e = .returned (.int .i64 2) ∧ AtB p b q T nx bs bl en (csM M adN bs (bs + 1)) w w' := by
  have HC := Lib.hid hc
  have hu : U64 (bs + 1) := ⟨by omega, by omega⟩
  have hw := wrap64 (x := bs + 1) (by omega) (by omega)
  clear hc
  have HA := Lib.hid (AtB.start F k)
  have HQ := Lib.hid hq
  go_enter Tryd.func74, Tryd.ntmps74
  have c1 := k.kc.2.1
  have HAD := Lib.hid (HA.out.below (Below.refl _ w).drew)
  have hs0 := Lib.hid HAD.out.k.kc.2.1
  clear F k HA
  go_wp2_with fail
  go_region_held3 (fun w9 => w9.cell? ⟨q, 1, none⟩ = some (.int .u64 bs))
    (first | exact hs0.out | exact hs1.out | fail)
    (first
      | (go_at_call 96; (with_reducible refine (changeE (n := bs + 1) hT HAD.out.f hs HAD.out.k hu HC.out).mono ?_); rintro ee w1 ⟨rfl, A1⟩; have HA1 := Lib.hid (A1.trans HAD.out.o); have hs1 := Lib.hid A1.k.kc.2.1; have z3 := A1.k.free 3; have c3 := A1.k.kc.2.2.2.1; clear A1)
      | fail)
  go_wp2_with fail
  go_ret
  exact ⟨rfl, HA1.out⟩
set_option maxHeartbeats 2000000 in
theorem openE (hT : T ≠ 109) (hq : 1 < q) (F : VX p b M w) (hs : M.s.st < 1000000) (k : Bq q T (KC nx bs bl en) w) (hb : 0 ≤ bl ∧ bl < 4) :
    Calls Tryd.prog 75 #[.pointer (some ⟨q, 0, none⟩), .pointer (some ⟨p, 0, none⟩)] w fun e w' => e = .returned (.int .i64 0) ∧ AtB p b q T nx bs bl en (csM M (adK bl) cldW opnW) w w' := by
  have HA := Lib.hid (AtB.start F k)
  have HQ := Lib.hid hq
  go_enter Tryd.func75, Tryd.ntmps75
  clear F k
  go_wp2_with fail
  ((with_reducible refine (turn_open hT HA.out.f hs HA.out.k hb rfl).mono ?_); rintro ee w1 ⟨rfl, A1⟩)
  have HA1 := Lib.hid A1
  clear A1
  go_wp2_with fail
  go_ret
  exact ⟨rfl, HA1.out⟩
set_option maxHeartbeats 2000000 in
theorem last_low (hT : T ≠ 109) (hq : 1 < q) (F : VX p b M w) (hs : M.s.st < 1000000) (k : Bq q T (KC nx bs bl en) w) (hv : M.V adN = v) (h0 : v ≤ 1) :
    Calls Tryd.prog 76 #[.pointer (some ⟨q, 0, none⟩), .pointer (some ⟨p, 0, none⟩)] w fun e w' => e = .returned (.int .i64 0) ∧ AtB p b q T nx v bl 4 (ldM M adN) w w' := by
  have HV := Lib.hid hv
  clear hv
  have HA := Lib.hid (AtB.start F k)
  have HQ := Lib.hid hq
  go_enter Tryd.func76, Tryd.ntmps76
  go_wp2_with fail
  ((with_reducible refine (countE hT HQ.out HA.out.f hs HA.out.k HV.out).mono ?_); rintro ee w1 ⟨rfl, A1⟩)
  have HA1 := Lib.hid A1
  obtain ⟨c0, c1, c2, c3, hz⟩ := A1.k.kc
  have z2 := hz 2
  clear A1 HA hz
  go_wp2_with fail
  ((with_reducible refine (endE HA1.out.k).mono ?_); rintro ee w2 ⟨rfl, rfl⟩)
  go_wp2_with fail
  go_ret
  exact ⟨rfl, HA1.out.set hT HQ.out 3 (.int .i64 4) rfl⟩
set_option maxHeartbeats 2000000 in
theorem last_high (hT : T ≠ 109) (hq : 1 < q) (F : VX p b M w) (hs : M.s.st < 1000000) (k : Bq q T (KC nx bs bl en) w) (hv : M.V adN = v) (h0 : 4 < v) :
    Calls Tryd.prog 76 #[.pointer (some ⟨q, 0, none⟩), .pointer (some ⟨p, 0, none⟩)] w fun e w' => e = .returned (.int .i64 0) ∧ AtB p b q T nx v bl 1 (ldM M adN) w w' := by
  have HV := Lib.hid hv
  clear hv
  have h2 : ¬ v ≤ 1 := by omega
  have HA := Lib.hid (AtB.start F k)
  have HQ := Lib.hid hq
  go_enter Tryd.func76, Tryd.ntmps76
  go_wp2_with fail
  ((with_reducible refine (countE hT HQ.out HA.out.f hs HA.out.k HV.out).mono ?_); rintro ee w1 ⟨rfl, A1⟩)
  have HA1 := Lib.hid A1
  obtain ⟨c0, c1, c2, c3, hz⟩ := A1.k.kc
  have z2 := hz 2
  clear A1 HA hz
  go_wp2_with fail
  ((with_reducible refine (endE HA1.out.k).mono ?_); rintro ee w2 ⟨rfl, rfl⟩)
  go_wp2_with fail
  go_ret
  exact ⟨rfl, HA1.out.set hT HQ.out 3 (.int .i64 1) rfl⟩
set_option maxHeartbeats 2000000 in
theorem last_on (hT : T ≠ 109) (hq : 1 < q) (F : VX p b M w) (hs : M.s.st < 1000000) (k : Bq q T (KC nx bs bl en) w) (hv : M.V adN = v) (h0 : 1 < v) (h1 : v ≤ 4) :
    Calls Tryd.prog 76 #[.pointer (some ⟨q, 0, none⟩), .pointer (some ⟨p, 0, none⟩)] w fun e w' => e = .returned (.int .i64 3) ∧ AtB p b q T nx v (v - 1) en (ldM M adN) w w' := by
  have HV := Lib.hid hv
  clear hv
  have h2 : ¬ 4 < v := by omega
  have h3 : ¬ v ≤ 1 := by omega
  have hw := wrap_small (x := v) (by omega) (by omega)
  have hw2 := wrap_small (x := v - 1) (by omega) (by omega)
  have HA := Lib.hid (AtB.start F k)
  have HQ := Lib.hid hq
  go_enter Tryd.func76, Tryd.ntmps76
  go_wp2_with fail
  ((with_reducible refine (countE hT HQ.out HA.out.f hs HA.out.k HV.out).mono ?_); rintro ee w1 ⟨rfl, A1⟩)
  have HA1 := Lib.hid A1
  obtain ⟨c0, c1, c2, c3, hz⟩ := A1.k.kc
  have z2 := hz 2
  clear A1 HA hz
  go_wp2_with fail
  go_ret
  exact ⟨rfl, HA1.out.set hT HQ.out 2 (.int .i64 (v - 1)) rfl⟩
set_option maxHeartbeats 2000000 in
theorem shut_true (hT : T ≠ 109) (hq : 1 < q) (F : VX p b M w) (hs : M.s.st < 1000000) (k : Bq q T (KC nx bs bl en) w) (hb : 0 ≤ bl ∧ bl < 4) (hc : casV M.V (adK bl) opnW = true) :
    Calls Tryd.prog 77 #[.pointer (some ⟨q, 0, none⟩), .pointer (some ⟨p, 0, none⟩)] w fun e w' => e = .returned (.int .i64 4) ∧ AtB p b q T nx bs bl en (csM M (adK bl) opnW cldW) w w' := by
  have HC := Lib.hid hc
  clear hc
  have HA := Lib.hid (AtB.start F k)
  have HQ := Lib.hid hq
  go_enter Tryd.func77, Tryd.ntmps77
  clear F k
  go_wp2_with fail
  ((with_reducible refine (turn_shut hT HA.out.f hs HA.out.k hb HC.out).mono ?_); rintro ee w1 ⟨rfl, A1⟩)
  have HA1 := Lib.hid A1
  clear A1
  go_wp2_with fail
  go_ret
  exact ⟨rfl, HA1.out⟩
set_option maxHeartbeats 2000000 in
theorem lower_true (hT : T ≠ 109) (hq : 1 < q) (F : VX p b M w) (hs : M.s.st < 1000000) (k : Bq q T (KC nx bs bl en) w) (h0 : 1 ≤ bs) (h1 : bs ≤ 4) (hc : casV M.V adN bs = true) :
    Calls Tryd.prog 78 #[.pointer (some ⟨q, 0, none⟩), .pointer (some ⟨p, 0, none⟩)] w fun e w' => e = .returned (.int .i64 0) ∧ AtB p b q T nx bs bl en (csM M adN bs (bs - 1)) w w' := by
  have HC := Lib.hid hc
  have hu : U64 (bs - 1) := ⟨by omega, by omega⟩
  have hw := wrap64 (x := bs - 1) (by omega) (by omega)
  clear hc
  have HA := Lib.hid (AtB.start F k)
  have HQ := Lib.hid hq
  go_enter Tryd.func78, Tryd.ntmps78
  have c1 := k.kc.2.1
  have HAD := Lib.hid (HA.out.below (Below.refl _ w).drew)
  have hs0 := Lib.hid HAD.out.k.kc.2.1
  clear F k HA
  go_wp2_with fail
  go_region_held3 (fun w9 => w9.cell? ⟨q, 1, none⟩ = some (.int .u64 bs))
    (first | exact hs0.out | exact hs1.out | fail)
    (first
      | (go_at_call 96; (with_reducible refine (changeE (n := bs - 1) hT HAD.out.f hs HAD.out.k hu HC.out).mono ?_); rintro ee w1 ⟨rfl, A1⟩; have HA1 := Lib.hid (A1.trans HAD.out.o); have hs1 := Lib.hid A1.k.kc.2.1; have z3 := A1.k.free 3; have c3 := A1.k.kc.2.2.2.1; clear A1)
      | fail)
  go_wp2_with fail
  go_ret
  exact ⟨rfl, HA1.out⟩
set_option maxHeartbeats 2000000 in
theorem shut_false (hT : T ≠ 109) (hq : 1 < q) (F : VX p b M w) (hs : M.s.st < 1000000) (k : Bq q T (KC nx bs bl en) w) (hb : 0 ≤ bl ∧ bl < 4) (hc : casV M.V (adK bl) opnW = false) :
    Calls Tryd.prog 77 #[.pointer (some ⟨q, 0, none⟩), .pointer (some ⟨p, 0, none⟩)] w fun e w' => e = .returned (.int .i64 0) ∧ AtB p b q T nx bs bl 7 (csM M (adK bl) opnW cldW) w w' := by
  have HC := Lib.hid hc
  clear hc
  have HA := Lib.hid (AtB.start F k)
  have HQ := Lib.hid hq
  go_enter Tryd.func77, Tryd.ntmps77
  clear F k
  go_wp2_with fail
  ((with_reducible refine (turn_shut hT HA.out.f hs HA.out.k hb HC.out).mono ?_); rintro ee w1 ⟨rfl, A1⟩)
  have HA1 := Lib.hid A1
  clear A1
  go_wp2_with fail
  ((with_reducible refine (endE HA1.out.k).mono ?_); rintro ee w2 ⟨rfl, rfl⟩)
  go_wp2_with fail
  go_ret
  exact ⟨rfl, HA1.out.set hT HQ.out 3 (.int .i64 7) rfl⟩
set_option maxHeartbeats 2000000 in
theorem lower_false (hT : T ≠ 109) (hq : 1 < q) (F : VX p b M w) (hs : M.s.st < 1000000) (k : Bq q T (KC nx bs bl en) w) (h0 : 1 ≤ bs) (h1 : bs ≤ 4) (hc : casV M.V adN bs = false) :
    Calls Tryd.prog 78 #[.pointer (some ⟨q, 0, none⟩), .pointer (some ⟨p, 0, none⟩)] w fun e w' => e = .returned (.int .i64 1) ∧ AtB p b q T nx bs bl 7 (csM M adN bs (bs - 1)) w w' := by
  have HC := Lib.hid hc
  have hu : U64 (bs - 1) := ⟨by omega, by omega⟩
  have hw := wrap64 (x := bs - 1) (by omega) (by omega)
  clear hc
  have HA := Lib.hid (AtB.start F k)
  have HQ := Lib.hid hq
  go_enter Tryd.func78, Tryd.ntmps78
  have c1 := k.kc.2.1
  have HAD := Lib.hid (HA.out.below (Below.refl _ w).drew)
  have hs0 := Lib.hid HAD.out.k.kc.2.1
  clear F k HA
  go_wp2_with fail
  go_region_held3 (fun w9 => w9.cell? ⟨q, 1, none⟩ = some (.int .u64 bs))
    (first | exact hs0.out | exact hs1.out | fail)
    (first
      | (go_at_call 96; (with_reducible refine (changeE (n := bs - 1) hT HAD.out.f hs HAD.out.k hu HC.out).mono ?_); rintro ee w1 ⟨rfl, A1⟩; have HA1 := Lib.hid (A1.trans HAD.out.o); have hs1 := Lib.hid A1.k.kc.2.1; have z3 := A1.k.free 3; have c3 := A1.k.kc.2.2.2.1; clear A1)
      | fail)
  go_wp2_with fail
  go_ret
  exact ⟨rfl, HA1.out.set hT HQ.out 3 (.int .i64 7) rfl⟩
end
end Go.Proofs.YtffkjdmpeeagoaaDoor
