/-
  Package tables: what both operations have in common: whether it is over, how it ended, where words stand, the block's word read and changed; condition: the operation and the memory lie as they say, numbers of their kinds.
-/
import Derived.Test.YtffkjdmpeeagoaaDoorTB1
import Derived.StillTailTactics
namespace Go.Proofs.YtffkjdmpeeagoaaDoor
open Go.RowKit Go.Maps

/-- The place's cells, and behind them a Join's own. -/
def PC (nx bl th wd en : Int) (tl : List Value) : List Value := .int .i64 nx :: .int .i64 bl :: .int .i64 th :: .int .u64 wd :: .int .i64 en :: tl
def JT (ow bs fd : Int) (jd : Bool) : List Value := [.int .i64 ow, .int .i64 bs, .int .i64 fd, .bool jd]
/-- How it ended, as it is told. -/
def gotE (nx en : Int) : Int := if nx = 0 then en else 0
section
variable {p b q : Nat} {T : TypeId} {nx bl th wd en j n ow bs fd : Int} {jd c : Bool} {tl : List Value} {M M' : MV} {w w' X : World}
theorem Bq.pc (k : Bq q T (PC nx bl th wd en tl) w) : w.cell? ⟨q, 0, none⟩ = some (.int .i64 nx) ∧ w.cell? ⟨q, 1, none⟩ = some (.int .i64 bl) ∧ w.cell? ⟨q, 2, none⟩ = some (.int .i64 th) ∧ w.cell? ⟨q, 3, none⟩ = some (.int .u64 wd) ∧ w.cell? ⟨q, 4, none⟩ = some (.int .i64 en) ∧ ∀ i, w.frozen? ⟨q, i, none⟩ = false := ⟨k.cell 0, k.cell 1, k.cell 2, k.cell 3, k.cell 4, k.free⟩
theorem Bq.jc (k : Bq q T (PC nx bl th wd en (JT ow bs fd jd)) w) : w.cell? ⟨q, 5, none⟩ = some (.int .i64 ow) ∧ w.cell? ⟨q, 6, none⟩ = some (.int .i64 bs) ∧ w.cell? ⟨q, 7, none⟩ = some (.int .i64 fd) ∧ w.cell? ⟨q, 8, none⟩ = some (.bool jd) := ⟨k.cell 5, k.cell 6, k.cell 7, k.cell 8⟩
theorem overP (k : Bq q T (PC nx bl th wd en tl) w) : Calls Tryd.prog 63 #[.pointer (some ⟨q, 0, none⟩)] w fun e w' => e = .returned (.bool (nx == 0)) ∧ w' = w := by
  obtain ⟨c0, _⟩ := k.pc
  clear k
  go_enter Tryd.func63, Tryd.ntmps63
  go_wp2_with fail
  go_ret
  exact ⟨rfl, rfl⟩
theorem gotP (k : Bq q T (PC nx bl th wd en tl) w) : Calls Tryd.prog 64 #[.pointer (some ⟨q, 0, none⟩)] w fun e w' => e = .returned (.int .i64 (gotE nx en)) ∧ w' = w := by
  obtain ⟨c0, _, _, _, c4, _⟩ := k.pc
  have HK := Lib.hid k
  unfold gotE
  by_cases h : nx = 0
  · subst h
    clear k c0
    go_enter Tryd.func64, Tryd.ntmps64
    go_wp2_with fail
    ((with_reducible refine (overP HK.out).mono ?_); rintro ee w1 ⟨rfl, rfl⟩)
    go_wp2_with fail
    go_ret
    exact ⟨rfl, rfl⟩
  · have hz : (nx == 0) = false := beq_eq_false_iff_ne.2 h
    rw [if_neg h]
    clear k c0 h
    go_enter Tryd.func64, Tryd.ntmps64
    go_wp2_with fail
    ((with_reducible refine (overP HK.out).mono ?_); rintro ee w1 ⟨rfl, rfl⟩)
    go_wp2_with fail
    go_ret
    exact ⟨rfl, rfl⟩
theorem endP (k : Bq q T (PC nx bl th wd en tl) w) : Calls Tryd.prog 114 #[.pointer (some ⟨q, 0, none⟩), .int .i64 n] w fun e w' => e = .returned (.int .i64 0) ∧ w' = w.setCell ⟨q, 4, none⟩ (.int .i64 n) := by
  obtain ⟨c0, _, _, _, c4, hz⟩ := k.pc
  have z4 := hz 4
  clear k c0 hz
  go_enter Tryd.func114, Tryd.ntmps114
  go_wp2_with fail
  go_ret
  exact ⟨rfl, rfl⟩
theorem atP (k : Bq q T (PC nx bl th wd en tl) w) : Calls Tryd.prog 105 #[.pointer (some ⟨q, 0, none⟩), .int .i64 n] w fun e w' => e = .returned (.agg #[.int .u8 8, .int .i64 th, .int .i64 n]) ∧ Below w.heap.size w w' := by
  obtain ⟨c0, _, c2, _, c4, hz⟩ := k.pc
  have cA : (w.alloc (.cells #[.int .u8 0, .int .i64 0, .int .i64 0] 34)).cell? ⟨q, 2, none⟩ = some (.int .i64 th) := (k.below ((Below.refl _ _).alloc (Nat.le_refl _) _)).pc.2.2.1
  clear k c0 c4 hz
  go_enter Tryd.func105, Tryd.ntmps105
  go_wp2
  exact bodyPost_ret (v := .agg #[.int .u8 8, .int .i64 th, .int .i64 n]) (by simp [results, Tryd.results105, go_sem]) rfl ⟨rfl, (Below.refl _ _).alloc (Nat.le_refl _) _⟩
theorem blockP (k : Bq q T (PC nx bl th wd en tl) w) : Calls Tryd.prog 106 #[.pointer (some ⟨q, 0, none⟩)] w fun e w' => e = .returned (.agg #[.int .u8 7, .int .i64 bl, .int .i64 0]) ∧ Below w.heap.size w w' := by
  obtain ⟨c0, c1, _, _, c4, hz⟩ := k.pc
  have cA : (w.alloc (.cells #[.int .u8 0, .int .i64 0, .int .i64 0] 34)).cell? ⟨q, 1, none⟩ = some (.int .i64 bl) := (k.below ((Below.refl _ _).alloc (Nat.le_refl _) _)).pc.2.1
  clear k c0 c4 hz
  go_enter Tryd.func106, Tryd.ntmps106
  go_wp2
  exact bodyPost_ret (v := .agg #[.int .u8 7, .int .i64 bl, .int .i64 0]) (by simp [results, Tryd.results106, go_sem]) rfl ⟨rfl, (Below.refl _ _).alloc (Nat.le_refl _) _⟩
/-- A memory's calls, their address as it stands in the text. -/
theorem VX.ldA (F : VX p b M w) (hs : M.s.st < 1000000) {x : Ad} {k a f v : Int} (hx : x.k = k ∧ x.a = a ∧ x.f = f) (hv : M.V x = v) :
    Calls Tryd.prog 30 #[.pointer (some ⟨p, 0, none⟩), .agg #[.int .u8 k, .int .i64 a, .int .i64 f]] w fun e w' => e = .returned (.int .u64 v) ∧ VX p b (ldM M x) w' ∧ Only p b w w' := by
  obtain ⟨rfl, rfl, rfl⟩ := hx
  subst hv
  exact F.load hs x
theorem VX.stA (F : VX p b M w) (hs : M.s.st < 1000000) {x : Ad} {k a f v : Int} (hx : x.k = k ∧ x.a = a ∧ x.f = f) (hv : U64 v) :
    Calls Tryd.prog 32 #[.pointer (some ⟨p, 0, none⟩), .agg #[.int .u8 k, .int .i64 a, .int .i64 f], .int .u64 v] w fun e w' => e = .returned (.tuple #[]) ∧ VX p b (stM M x v) w' ∧ Only p b w w' := by
  obtain ⟨rfl, rfl, rfl⟩ := hx
  exact F.store hs x v hv
theorem VX.csA (F : VX p b M w) (hs : M.s.st < 1000000) {x : Ad} {k a f u v : Int} (hx : x.k = k ∧ x.a = a ∧ x.f = f) (hv : U64 v) (hc : casV M.V x u = c) :
    Calls Tryd.prog 104 #[.pointer (some ⟨p, 0, none⟩), .agg #[.int .u8 k, .int .i64 a, .int .i64 f], .int .u64 u, .int .u64 v] w fun e w' => e = .returned (.bool c) ∧ VX p b (csM M x u v) w' ∧ Only p b w w' := by
  obtain ⟨rfl, rfl, rfl⟩ := hx
  subst hc
  exact F.cas hs x u v hv
theorem bq_only (k : Bq q T (PC nx bl th wd en tl) w) (F : VX p b M w) (hT : T ≠ 109) (o : Only p b w w') : Bq q T (PC nx bl th wd en tl) w' := by
  obtain ⟨h1, h2⟩ := F.ne hT k
  exact k.same (o.block q k.lt h1 h2)
/-- Behind a step: the memory, the operation, what is left alone. -/
structure At3 (p b q : Nat) (T : TypeId) (nx bl th wd en : Int) (tl : List Value) (M : MV) (w0 w : World) : Prop where
  f : VX p b M w
  k : Bq q T (PC nx bl th wd en tl) w
  o : Onl p b [q] w0 w
theorem At3.start (F : VX p b M w) (k : Bq q T (PC nx bl th wd en tl) w) : At3 p b q T nx bl th wd en tl M w w := ⟨F, k, .refl _⟩
theorem At3.below (h : At3 p b q T nx bl th wd en tl M w X) (hb : Below X.heap.size X w') : At3 p b q T nx bl th wd en tl M w w' := ⟨h.f.below hb, h.k.below hb, h.o.trans (.of_below hb)⟩
theorem At3.mem (h : At3 p b q T nx bl th wd en tl M w X) (hT : T ≠ 109) (F : VX p b M' w') (o : Only p b X w') : At3 p b q T nx bl th wd en tl M' w w' := ⟨F, bq_only h.k h.f hT o, h.o.trans (.of_only o)⟩
theorem At3.set {nx' bl' th' wd' en' : Int} {tl' : List Value} (h : At3 p b q T nx bl th wd en tl M w X) (hT : T ≠ 109) (hq : 1 < q) (i : Nat) (v : Value) (e : PC nx' bl' th' wd' en' tl' = (PC nx bl th wd en tl).set i v) : At3 p b q T nx' bl' th' wd' en' tl' M w (X.setCell ⟨q, i, none⟩ v) := by
  obtain ⟨h1, h2⟩ := h.f.ne hT h.k
  exact ⟨h.f.setQ h1 h2 hq i v, h.k.set i v e, h.o.trans (.setCell _ (by simp) i v)⟩
/-- The block's word, read. -/
theorem readP (hT : T ≠ 109) (hq : 1 < q) (F : VX p b M w) (hs : M.s.st < 1000000) (k : Bq q T (PC nx bl th wd en tl) w) (hb : 0 ≤ bl ∧ bl < 4) :
    Calls Tryd.prog 87 #[.pointer (some ⟨q, 0, none⟩), .pointer (some ⟨p, 0, none⟩)] w fun e w' => e = .returned (.int .i64 2) ∧ At3 p b q T nx bl th (M.V (adK bl)) en tl (ldM M (adK bl)) w w' := by
  have HA := Lib.hid (At3.start F k)
  clear F k
  go_enter Tryd.func87, Tryd.ntmps87
  go_wp2_with fail
  ((with_reducible refine (blockP HA.out.k).mono ?_); rintro ee w1 ⟨rfl, hb1⟩)
  have HA1 := Lib.hid (HA.out.below hb1)
  clear HA hb1
  go_wp2_with fail
  ((with_reducible refine (HA1.out.f.ldA hs (adK_at hb) rfl).mono ?_); rintro ee w2 ⟨rfl, F2, o2⟩)
  have HA2 := Lib.hid (HA1.out.mem hT F2 o2)
  clear HA1 F2 o2
  obtain ⟨c0, c1, c2, c3, c4, hz⟩ := HA2.out.k.pc
  have z3 := hz 3
  clear hz
  go_wp2_with fail
  go_ret
  exact ⟨rfl, HA2.out.set hT hq 3 _ rfl⟩
end
end Go.Proofs.YtffkjdmpeeagoaaDoor
