/-
  Package blocks: the edge that both operations embed: whether it is over, how it ended, blocks counted, their number changed, a block turned; condition: the operation and the memory lie as they say, numbers of their kinds.
-/
import Derived.Test.YtffkjdmpeeagoaaDoorTB4
import Derived.Test.YtffkjdmpeeagoaaDoorBP1
namespace Go.Proofs.YtffkjdmpeeagoaaDoor
open Go.RowKit Go.Maps

/-- The edge's cells. -/
def KC (nx bs bl en : Int) : List Value := [.int .i64 nx, .int .u64 bs, .int .i64 bl, .int .i64 en]
section
variable {p b q : Nat} {T : TypeId} {nx bs bl en n v nx' bs' bl' en' : Int} {c : Bool} {M M' : MV} {w w' X : World}
theorem Bq.kc (k : Bq q T (KC nx bs bl en) w) : w.cell? ⟨q, 0, none⟩ = some (.int .i64 nx) ∧ w.cell? ⟨q, 1, none⟩ = some (.int .u64 bs) ∧ w.cell? ⟨q, 2, none⟩ = some (.int .i64 bl) ∧ w.cell? ⟨q, 3, none⟩ = some (.int .i64 en) ∧ ∀ i, w.frozen? ⟨q, i, none⟩ = false := ⟨k.cell 0, k.cell 1, k.cell 2, k.cell 3, k.free⟩
theorem overE (k : Bq q T (KC nx bs bl en) w) : Calls Tryd.prog 48 #[.pointer (some ⟨q, 0, none⟩)] w fun e w' => e = .returned (.bool (nx == 0)) ∧ w' = w := by
  obtain ⟨c0, c1, c2, c3, _⟩ := k.kc
  clear k c1 c2 c3
  go_enter Tryd.func48, Tryd.ntmps48
  go_wp2_with fail
  go_ret
  exact ⟨rfl, rfl⟩
theorem gotEd (k : Bq q T (KC nx bs bl en) w) : Calls Tryd.prog 49 #[.pointer (some ⟨q, 0, none⟩)] w fun e w' => e = .returned (.int .i64 (gotE nx en)) ∧ w' = w := by
  obtain ⟨c0, _, _, c3, _⟩ := k.kc
  have HK := Lib.hid k
  unfold gotE
  by_cases h : nx = 0
  · subst h
    clear k c0
    go_enter Tryd.func49, Tryd.ntmps49
    go_wp2_with fail
    ((with_reducible refine (overE HK.out).mono ?_); rintro ee w1 ⟨rfl, rfl⟩)
    go_wp2_with fail
    go_ret
    exact ⟨rfl, rfl⟩
  · have hz : (nx == 0) = false := beq_eq_false_iff_ne.2 h
    rw [if_neg h]
    clear k c0 h
    go_enter Tryd.func49, Tryd.ntmps49
    go_wp2_with fail
    ((with_reducible refine (overE HK.out).mono ?_); rintro ee w1 ⟨rfl, rfl⟩)
    go_wp2_with fail
    go_ret
    exact ⟨rfl, rfl⟩
theorem endE (k : Bq q T (KC nx bs bl en) w) : Calls Tryd.prog 95 #[.pointer (some ⟨q, 0, none⟩), .int .i64 n] w fun e w' => e = .returned (.int .i64 0) ∧ w' = w.setCell ⟨q, 3, none⟩ (.int .i64 n) := by
  obtain ⟨c0, _, _, c3, hz⟩ := k.kc
  have z3 := hz 3
  clear k c0 hz
  go_enter Tryd.func95, Tryd.ntmps95
  go_wp2_with fail
  go_ret
  exact ⟨rfl, rfl⟩
theorem bq_onlyB (k : Bq q T (KC nx bs bl en) w) (F : VX p b M w) (hT : T ≠ 109) (o : Only p b w w') : Bq q T (KC nx bs bl en) w' := by
  obtain ⟨h1, h2⟩ := F.ne hT k
  exact k.same (o.block q k.lt h1 h2)
/-- Behind a step: the memory, the operation, what is left alone. -/
structure AtB (p b q : Nat) (T : TypeId) (nx bs bl en : Int) (M : MV) (w0 w : World) : Prop where
  f : VX p b M w
  k : Bq q T (KC nx bs bl en) w
  o : Onl p b [q] w0 w
theorem AtB.start (F : VX p b M w) (k : Bq q T (KC nx bs bl en) w) : AtB p b q T nx bs bl en (M) w w := ⟨F, k, .refl _⟩
theorem AtB.below (h : AtB p b q T nx bs bl en (M) w X) (hb : Below X.heap.size X w') : AtB p b q T nx bs bl en (M) w w' := ⟨h.f.below hb, h.k.below hb, h.o.trans (.of_below hb)⟩
theorem AtB.mem (h : AtB p b q T nx bs bl en (M) w X) (hT : T ≠ 109) (F : VX p b M' w') (o : Only p b X w') : AtB p b q T nx bs bl en (M') w w' := ⟨F, bq_onlyB h.k h.f hT o, h.o.trans (.of_only o)⟩
theorem AtB.set (h : AtB p b q T nx bs bl en (M) w X) (hT : T ≠ 109) (hq : 1 < q) (i : Nat) (v : Value) (e : KC nx' bs' bl' en' = (KC nx bs bl en).set i v) : AtB p b q T nx' bs' bl' en' M w (X.setCell ⟨q, i, none⟩ v) := by
  obtain ⟨h1, h2⟩ := h.f.ne hT h.k
  exact ⟨h.f.setQ h1 h2 hq i v, h.k.set i v e, h.o.trans (.setCell _ (by simp) i v)⟩
theorem AtB.trans {w0 : World} (h : AtB p b q T nx bs bl en (M) X w') (o : Onl p b [q] w0 X) : AtB p b q T nx bs bl en (M) w0 w' := ⟨h.f, h.k, o.trans h.o⟩
/-- How many blocks there are, read. -/
theorem countE (hT : T ≠ 109) (hq : 1 < q) (F : VX p b M w) (hs : M.s.st < 1000000) (k : Bq q T (KC nx bs bl en) w) (hv : M.V adN = v) :
    Calls Tryd.prog 94 #[.pointer (some ⟨q, 0, none⟩), .pointer (some ⟨p, 0, none⟩)] w fun e w' => e = .returned (.int .u64 v) ∧ AtB p b q T nx v bl en (ldM M adN) w w' := by
  have HA := Lib.hid (AtB.start F k)
  clear F k
  go_enter Tryd.func94, Tryd.ntmps94
  go_wp2_with fail
  ((with_reducible refine (HA.out.f.ldA hs adN_at hv).mono ?_); rintro ee w1 ⟨rfl, F1, o1⟩)
  have HA1 := Lib.hid (HA.out.mem hT F1 o1)
  obtain ⟨c0, c1, c2, c3, hz⟩ := HA1.out.k.kc
  have z1 := hz 1
  clear HA F1 o1 hz
  go_wp2_with fail
  go_ret
  exact ⟨rfl, HA1.out.set hT hq 1 (.int .u64 v) rfl⟩
/-- How many there are, changed. -/
theorem changeE (hT : T ≠ 109) (F : VX p b M w) (hs : M.s.st < 1000000) (k : Bq q T (KC nx bs bl en) w) (hn : U64 n) (hc : casV M.V adN bs = c) :
    Calls Tryd.prog 96 #[.pointer (some ⟨q, 0, none⟩), .pointer (some ⟨p, 0, none⟩), .int .u64 n] w fun e w' => e = .returned (.bool c) ∧ AtB p b q T nx bs bl en (csM M adN bs n) w w' := by
  have HA := Lib.hid (AtB.start F k)
  have c1 := k.kc.2.1
  clear F k
  go_enter Tryd.func96, Tryd.ntmps96
  go_wp2_with fail
  ((with_reducible refine (HA.out.f.csA hs adN_at hn hc).mono ?_); rintro ee w1 ⟨rfl, F1, o1⟩)
  have HA1 := Lib.hid (HA.out.mem hT F1 o1)
  clear HA F1 o1
  go_wp2_with fail
  go_ret
  exact ⟨rfl, HA1.out⟩
end
end Go.Proofs.YtffkjdmpeeagoaaDoor
