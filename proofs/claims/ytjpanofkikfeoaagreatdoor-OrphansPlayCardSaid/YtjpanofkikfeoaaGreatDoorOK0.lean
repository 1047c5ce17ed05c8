/-
  Package orphans: the turn that both operations embed: whether it is over, the head as it is read, and swapped; where a word stands; condition: the operation and the memory lie as they say, numbers of their kinds.
  A Give of the landed package, line by line; condition: the operation, its slots and the memory lie as they say, numbers of their kinds.
  A Take of the landed package, line by line; condition: the operation and the memory lie as they say, numbers of their kinds.
  Package orphans: tables of lines, a step by its line, whether an operation is over; condition: the operation lies as it says.
  Package orphans: a step by its line, whether an operation is over; condition: the operation lies as it says.
  Package orphans: whether entries may be given; condition: the list is read.
  Package orphans: a new Give; condition: the list is read.
  Package orphans: what a Take got, in new memory; condition: the operation and its row lie as they say.
-/
import Derived.Test.YtjpanofkikfeoaaGreatDoorTB1
import Derived.Test.YtjpanofkikfeoaaGreatDoorOD0
import Derived.Test.YtjpanofkikfeoaaGreatDoorU1
import Derived.Deep.Cut
import Derived.Deep.RegionWith
import Derived.Test.YtjpanofkikfeoaaGreatDoorOE1
namespace Go.Proofs.YtjpanofkikfeoaaGreatDoor
open Go.RowKit Go.Maps

/-- The turn's cells, and behind them the operation's own. -/
def UC (nx hd to th : Int) (tl : List Value) : List Value := .int .i64 nx :: .int .u64 hd :: .int .i64 to :: .int .i64 th :: tl
def GTl (v : Value) (ch rs : Int) : List Value := [v, .int .i64 ch, .int .i64 rs]
def TTl (es eg : Int) (ek : Bool) (eb ec ed : Int) (v : Value) : List Value := [.int .i64 es, .int .u32 eg, .bool ek, .int .u64 eb, .int .u64 ec, .int .u64 ed, v]
section
variable {p b q y : Nat} {T t : TypeId} {nx hd to th ch rs es eg eb ec ed v s nx' hd' to' th' : Int} {ek c : Bool} {sl : Value} {tl tl' L : List Value} {M M' : MV} {w w' X : World}
theorem Bq.uc (k : Bq q T (UC nx hd to th tl) w) : w.cell? ⟨q, 0, none⟩ = some (.int .i64 nx) ∧ w.cell? ⟨q, 1, none⟩ = some (.int .u64 hd) ∧ w.cell? ⟨q, 2, none⟩ = some (.int .i64 to) ∧ w.cell? ⟨q, 3, none⟩ = some (.int .i64 th) ∧ ∀ i, w.frozen? ⟨q, i, none⟩ = false := ⟨k.cell 0, k.cell 1, k.cell 2, k.cell 3, k.free⟩
theorem Bq.gc (k : Bq q T (UC nx hd to th (GTl sl ch rs)) w) : w.cell? ⟨q, 4, none⟩ = some sl ∧ w.cell? ⟨q, 5, none⟩ = some (.int .i64 ch) ∧ w.cell? ⟨q, 6, none⟩ = some (.int .i64 rs) := ⟨k.cell 4, k.cell 5, k.cell 6⟩
theorem Bq.tc12 (k : Bq q T (UC nx hd to th (TTl es eg ek eb ec ed sl)) w) : w.cell? ⟨q, 4, none⟩ = some (.int .i64 es) ∧ w.cell? ⟨q, 5, none⟩ = some (.int .u32 eg) ∧ w.cell? ⟨q, 6, none⟩ = some (.bool ek) ∧ w.cell? ⟨q, 7, none⟩ = some (.int .u64 eb) ∧ w.cell? ⟨q, 8, none⟩ = some (.int .u64 ec) ∧ w.cell? ⟨q, 9, none⟩ = some (.int .u64 ed) ∧ w.cell? ⟨q, 10, none⟩ = some sl := ⟨k.cell 4, k.cell 5, k.cell 6, k.cell 7, k.cell 8, k.cell 9, k.cell 10⟩
theorem head_lo12 (s t : Int) (w : World) (hL : Lay w) (ht : U64 t) : Calls Tryz.prog 82 #[.int .i64 s, .int .u64 t] w fun e w' => e = .returned (.int .u64 (headW s t)) ∧ Below w.heap.size w w' := by
  refine (head_any s t w hL ht).mono ?_
  rintro e w' ⟨rfl, n, rfl⟩
  exact ⟨rfl, below_drewN' (Below.refl _ _) n⟩
theorem asHead_lo12 (x : Int) (w : World) (hL : Lay w) (hx : U64 x) : Calls Tryz.prog 80 #[.int .u64 x] w fun e w' => e = .returned (.tuple #[.int .i64 (wSlot x), .int .u64 (fld x 16 48)]) ∧ Below w.heap.size w w' := by
  refine (asHead_any x w hL hx).mono ?_
  rintro e w' ⟨rfl, n, rfl⟩
  exact ⟨rfl, below_drewN' (Below.refl _ _) n⟩
theorem asHeader_lo12 (x : Int) (w : World) (hL : Lay w) (hx : U64 x) : Calls Tryz.prog 84 #[.int .u64 x] w fun e w' => e = .returned (.tuple #[.int .u8 (stS (fld x 0 3)), .int .u32 (fld x 3 32)]) ∧ Below w.heap.size w w' := by
  refine (asHeader_any x w hL hx).mono ?_
  rintro e w' ⟨rfl, n, rfl⟩
  exact ⟨rfl, below_drewN' (Below.refl _ _) n⟩
theorem at12 (s f : Int) (w : World) : Calls Tryz.prog 92 #[.int .i64 s, .int .i64 f] w fun e w' => e = .returned (.agg #[.int .u8 9, .int .i64 s, .int .i64 f]) ∧ Below w.heap.size w w' := by
  go_enter Tryz.func92, Tryz.ntmps92
  go_wp2
  exact bodyPost_ret (v := .agg #[.int .u8 9, .int .i64 s, .int .i64 f]) (by simp [results, Tryz.results92, go_sem]) rfl ⟨rfl, (Below.refl _ _).alloc (Nat.le_refl _) _⟩
theorem tagU_wrap (x : Int) : U64 (fld x 16 48 + 1) ∧ IntKind.u64.wrap (fld x 16 48 + 1) = fld x 16 48 + 1 := by
  have h0 := fld_nonneg x 16 48
  have h1 := fld_lt x 16 48
  have e : (2 : Int) ^ 48 = 281474976710656 := by decide
  rw [e] at h1
  exact ⟨⟨by omega, by omega⟩, wrap64 (by omega) (by omega)⟩
theorem bq_only12 (k : Bq q T L w) (F : VX p b M w) (hT : T ≠ 96) (o : Only p b w w') : Bq q T L w' := by
  obtain ⟨h1, h2⟩ := F.ne hT k
  exact k.same (o.block q k.lt h1 h2)
/-- Behind a step: the memory, the operation, what is left alone. -/
structure AtU (p b q : Nat) (T : TypeId) (nx hd to th : Int) (tl : List Value) (M : MV) (w0 w : World) : Prop where
  f : VX p b M w
  k : Bq q T (UC nx hd to th tl) w
  o : Onl p b [q] w0 w
theorem AtU.start (F : VX p b M w) (k : Bq q T (UC nx hd to th tl) w) : AtU p b q T nx hd to th tl M w w := ⟨F, k, .refl _⟩
theorem AtU.below (h : AtU p b q T nx hd to th tl M w X) (hb : Below X.heap.size X w') : AtU p b q T nx hd to th tl M w w' := ⟨h.f.below hb, h.k.below hb, h.o.trans (.of_below hb)⟩
theorem AtU.mem (h : AtU p b q T nx hd to th tl M w X) (hT : T ≠ 96) (F : VX p b M' w') (o : Only p b X w') : AtU p b q T nx hd to th tl M' w w' := ⟨F, bq_only12 h.k h.f hT o, h.o.trans (.of_only o)⟩
theorem AtU.set (h : AtU p b q T nx hd to th tl M w X) (hT : T ≠ 96) (hq : 1 < q) (i : Nat) (v : Value) (e : UC nx' hd' to' th' tl' = (UC nx hd to th tl).set i v) : AtU p b q T nx' hd' to' th' tl' M w (X.setCell ⟨q, i, none⟩ v) := by
  obtain ⟨h1, h2⟩ := h.f.ne hT h.k
  exact ⟨h.f.setQ h1 h2 hq i v, h.k.set i v e, h.o.trans (.setCell _ (by simp) i v)⟩
theorem AtU.trans {w0 : World} (h : AtU p b q T nx hd to th tl M X w') (o : Onl p b [q] w0 X) : AtU p b q T nx hd to th tl M w0 w' := ⟨h.f, h.k, o.trans h.o⟩
/-- Another block of it is as it was. -/
theorem AtU.row (h : AtU p b q T nx hd to th tl M' w X) (F : VX p b M w) (ky : Bq y t L w) (ht : t ≠ 96) (hy : y ≠ q) : Bq y t L X := by
  obtain ⟨h1, h2⟩ := F.ne ht ky
  exact ky.same (h.o.block y ky.lt h1 h2 (by simp [hy]))
theorem overU (k : Bq q T (UC nx hd to th tl) w) : Calls Tryz.prog 51 #[.pointer (some ⟨q, 0, none⟩)] w fun e w' => e = .returned (.bool (nx == 0)) ∧ w' = w := by
  obtain ⟨c0, c1, c2, c3, _⟩ := k.uc
  clear k c1 c2 c3
  go_enter Tryz.func51, Tryz.ntmps51
  go_wp2_with fail
  go_ret
  exact ⟨rfl, rfl⟩
set_option maxHeartbeats 2000000 in
/-- The head, read. -/
theorem firstU (hT : T ≠ 96) (hq : 1 < q) (F : VX p b M w) (hs : M.s.st < 1000000) (k : Bq q T (UC nx hd to th tl) w) (hv : M.V adO = v) :
    Calls Tryz.prog 79 #[.pointer (some ⟨q, 0, none⟩), .pointer (some ⟨p, 0, none⟩)] w fun e w' => e = .returned (.int .i64 (wSlot v)) ∧ AtU p b q T nx v to th tl (ldM M adO) w w' := by
  have HA := Lib.hid (AtU.start F k)
  have hu : U64 v := hv ▸ F.u64 adO
  have HV := Lib.hid hv
  clear F k hv
  go_enter Tryz.func79, Tryz.ntmps79
  go_wp2_with fail
  ((with_reducible refine (HA.out.f.ldA hs adO_at HV.out).mono ?_); rintro ee w1 ⟨rfl, F1, o1⟩)
  have HA1 := Lib.hid (HA.out.mem hT F1 o1)
  obtain ⟨c0, c1, c2, c3, hz⟩ := HA1.out.k.uc
  have z1 := hz 1
  have HA2 := Lib.hid (HA1.out.set hT hq 1 (.int .u64 v) (nx' := nx) (hd' := v) (to' := to) (th' := th) (tl' := tl) rfl)
  clear HA F1 o1 hz
  go_wp2_with fail
  ((with_reducible refine (asHead_lo12 v _ HA2.out.f.lay hu).mono ?_); rintro ee w3 ⟨rfl, hb3⟩)
  go_wp2_with fail
  go_ret
  exact ⟨rfl, HA2.out.below hb3⟩
set_option maxRecDepth 100000 in
set_option maxHeartbeats 4000000 in
/-- The head, swapped. -/
theorem swapU_true (hT : T ≠ 96) (F : VX p b M w) (hs : M.s.st < 1000000) (k : Bq q T (UC nx hd to th tl) w) (hh : U64 hd) (hc : casV M.V adO hd = true) :
    Calls Tryz.prog 66 #[.pointer (some ⟨q, 0, none⟩), .pointer (some ⟨p, 0, none⟩)] w fun e w' => e = .returned (.int .i64 th) ∧ AtU p b q T nx hd to th tl (csM M adO hd (headW to (fld hd 16 48 + 1))) w w' := by
  have HA := Lib.hid (AtU.start F k)
  have HC := Lib.hid hc
  obtain ⟨hu, hw⟩ := tagU_wrap hd
  have HU := Lib.hid (head_u64 to (fld hd 16 48 + 1))
  obtain ⟨c0, c1, c2, c3, _⟩ := k.uc
  clear F k hc
  go_enter Tryz.func66, Tryz.ntmps66
  go_wp2_with fail
  ((with_reducible refine (asHead_lo12 hd _ HA.out.f.lay hh).mono ?_); rintro ee w1 ⟨rfl, hb1⟩)
  have HA1 := Lib.hid (HA.out.below hb1)
  clear c0 c1 c2 c3 hb1
  obtain ⟨c0, c1, c2, c3, _⟩ := HA1.out.k.uc
  go_wp2_with fail
  have HAD := Lib.hid (HA1.out.below (Below.refl _ w1).drew)
  have hs0 := Lib.hid (And.intro HAD.out.k.uc.2.1 HAD.out.k.uc.2.2.1)
  clear c0 c1 c2 c3
  go_region_held3 (fun w9 => w9.cell? ⟨q, 1, none⟩ = some (.int .u64 hd) ∧ w9.cell? ⟨q, 2, none⟩ = some (.int .i64 to))
    (first | exact hs0.out | exact hs1.out | exact hs2.out | fail)
    (first
      | (go_at_call 82; (with_reducible refine (head_lo12 to (fld hd 16 48 + 1) _ HAD.out.f.lay hu).mono ?_); rintro ee wA ⟨rfl, hbA⟩; have HA2 := Lib.hid (HAD.out.below hbA); have hs1 := Lib.hid (And.intro HA2.out.k.uc.2.1 HA2.out.k.uc.2.2.1); clear hbA)
      | (go_at_call 81; (with_reducible refine (HA2.out.f.csA hs adO_at HU.out HC.out).mono ?_); rintro ee wC ⟨rfl, F5, o5⟩; have HA5 := Lib.hid (HA2.out.mem hT F5 o5); have hs2 := Lib.hid (And.intro HA5.out.k.uc.2.1 HA5.out.k.uc.2.2.1); clear F5 o5)
      | fail)
  all_goals
    obtain ⟨c0, c1, c2, c3, _⟩ := HA5.out.k.uc
    go_wp2_with fail
    go_ret
    exact ⟨rfl, HA5.out⟩
set_option maxRecDepth 100000 in
set_option maxHeartbeats 4000000 in
/-- The head, swapped. -/
theorem swapU_false (hT : T ≠ 96) (F : VX p b M w) (hs : M.s.st < 1000000) (k : Bq q T (UC nx hd to th tl) w) (hh : U64 hd) (hc : casV M.V adO hd = false) :
    Calls Tryz.prog 66 #[.pointer (some ⟨q, 0, none⟩), .pointer (some ⟨p, 0, none⟩)] w fun e w' => e = .returned (.int .i64 1) ∧ AtU p b q T nx hd to th tl (csM M adO hd (headW to (fld hd 16 48 + 1))) w w' := by
  have HA := Lib.hid (AtU.start F k)
  have HC := Lib.hid hc
  obtain ⟨hu, hw⟩ := tagU_wrap hd
  have HU := Lib.hid (head_u64 to (fld hd 16 48 + 1))
  obtain ⟨c0, c1, c2, c3, _⟩ := k.uc
  clear F k hc
  go_enter Tryz.func66, Tryz.ntmps66
  go_wp2_with fail
  ((with_reducible refine (asHead_lo12 hd _ HA.out.f.lay hh).mono ?_); rintro ee w1 ⟨rfl, hb1⟩)
  have HA1 := Lib.hid (HA.out.below hb1)
  clear c0 c1 c2 c3 hb1
  obtain ⟨c0, c1, c2, c3, _⟩ := HA1.out.k.uc
  go_wp2_with fail
  have HAD := Lib.hid (HA1.out.below (Below.refl _ w1).drew)
  have hs0 := Lib.hid (And.intro HAD.out.k.uc.2.1 HAD.out.k.uc.2.2.1)
  clear c0 c1 c2 c3
  go_region_held3 (fun w9 => w9.cell? ⟨q, 1, none⟩ = some (.int .u64 hd) ∧ w9.cell? ⟨q, 2, none⟩ = some (.int .i64 to))
    (first | exact hs0.out | exact hs1.out | exact hs2.out | fail)
    (first
      | (go_at_call 82; (with_reducible refine (head_lo12 to (fld hd 16 48 + 1) _ HAD.out.f.lay hu).mono ?_); rintro ee wA ⟨rfl, hbA⟩; have HA2 := Lib.hid (HAD.out.below hbA); have hs1 := Lib.hid (And.intro HA2.out.k.uc.2.1 HA2.out.k.uc.2.2.1); clear hbA)
      | (go_at_call 81; (with_reducible refine (HA2.out.f.csA hs adO_at HU.out HC.out).mono ?_); rintro ee wC ⟨rfl, F5, o5⟩; have HA5 := Lib.hid (HA2.out.mem hT F5 o5); have hs2 := Lib.hid (And.intro HA5.out.k.uc.2.1 HA5.out.k.uc.2.2.1); clear F5 o5)
      | fail)
  all_goals
    obtain ⟨c0, c1, c2, c3, _⟩ := HA5.out.k.uc
    go_wp2_with fail
    go_ret
    exact ⟨rfl, HA5.out⟩
end
end Go.Proofs.YtjpanofkikfeoaaGreatDoor
namespace Go.Proofs.YtjpanofkikfeoaaGreatDoor
open Go.RowKit Go.Maps

section
variable {p b q y n cp i l1 : Nat} {T t : TypeId} {nx hd to th ch rs es eg eb ec ed v s s' nx' hd' to' th' : Int} {ek c : Bool} {sl : Value} {tl tl' L : List Value} {M M' : MV} {w w' X : World}
theorem onwardG_on (k : Bq q 77 (UC nx hd to th (GTl (.slice (some ⟨y, 0, none⟩) n cp) ch rs)) w) (hn : (n : Int) = l1 + 1) (hl : l1 < 100000) (h : ch < l1) : Calls Tryz.prog 21 #[.pointer (some ⟨q, 0, none⟩)] w fun e w' => e = .returned (.int .i64 3) ∧ Below w.heap.size w w' := by
  have hb : Below w.heap.size w w.drew := (Below.refl _ w).drew
  have HD := Lib.hid hb
  have kd := k.below hb
  have hs0 := Lib.hid (And.intro kd.gc.1 kd.gc.2.1)
  have e10 : (n : Int) - 1 = (l1 : Int) := by omega
  have w10 : IntKind.i64.wrap (l1 : Int) = (l1 : Int) := by simp [IntKind.wrap, IntKind.bits, IntKind.signed]; omega
  clear k hl kd hb
  have HN := Lib.hid hn
  clear hn
  go_enter Tryz.func21, Tryz.ntmps21
  go_wp2_with fail
  go_region_held3 (fun w9 => w9.cell? ⟨q, 4, none⟩ = some (.slice (some ⟨y, 0, none⟩) n cp) ∧ w9.cell? ⟨q, 5, none⟩ = some (.int .i64 ch))
    (first | exact hs0.out | fail)
    (fail)
  all_goals
    go_wp2_with fail
    go_ret
    exact ⟨rfl, HD.out⟩
theorem onwardG_end (k : Bq q 77 (UC nx hd to th (GTl (.slice (some ⟨y, 0, none⟩) n cp) ch rs)) w) (hn : (n : Int) = l1 + 1) (hl : l1 < 100000) (h : ¬ ch < l1) : Calls Tryz.prog 21 #[.pointer (some ⟨q, 0, none⟩)] w fun e w' => e = .returned (.int .i64 1) ∧ Below w.heap.size w w' := by
  have hb : Below w.heap.size w w.drew := (Below.refl _ w).drew
  have HD := Lib.hid hb
  have kd := k.below hb
  have hs0 := Lib.hid (And.intro kd.gc.1 kd.gc.2.1)
  have e10 : (n : Int) - 1 = (l1 : Int) := by omega
  have w10 : IntKind.i64.wrap (l1 : Int) = (l1 : Int) := by simp [IntKind.wrap, IntKind.bits, IntKind.signed]; omega
  clear k hl kd hb
  have HN := Lib.hid hn
  clear hn
  go_enter Tryz.func21, Tryz.ntmps21
  go_wp2_with fail
  go_region_held3 (fun w9 => w9.cell? ⟨q, 4, none⟩ = some (.slice (some ⟨y, 0, none⟩) n cp) ∧ w9.cell? ⟨q, 5, none⟩ = some (.int .i64 ch))
    (first | exact hs0.out | fail)
    (fail)
  all_goals
    go_wp2_with fail
    go_ret
    exact ⟨rfl, HD.out⟩
set_option maxRecDepth 100000 in
set_option maxHeartbeats 4000000 in
theorem storeG (F : VX p b M w) (hs : M.s.st < 1000000) (k : Bq q 77 (UC nx hd to th (GTl (.slice (some ⟨y, 0, none⟩) n cp) (i : Int) rs)) w) (ky : Bq y 3 L w) (hy : L[i]? = some (.int .i64 s)) (hi : i < n) (hr : 0 ≤ s ∧ s < 256) (v : Int) :
    Calls Tryz.prog 78 #[.pointer (some ⟨q, 0, none⟩), .pointer (some ⟨p, 0, none⟩), .int .i64 v] w fun e w' => e = .returned (.tuple #[]) ∧ AtU p b q 77 nx hd to th (GTl (.slice (some ⟨y, 0, none⟩) n cp) (i : Int) rs) (stM M (adS s 2) (headW v 0)) w w' := by
  have HA := Lib.hid (AtU.start F k)
  have HY := Lib.hid (And.intro F ky)
  have hyq : y ≠ q := ky.ne k (by decide)
  have HE := Lib.hid hy
  have HU := Lib.hid (head_u64 v 0)
  have hu0 : U64 (0 : Int) := u64_0'
  have q8 : (i : Int) < (n : Int) := by omega
  have p8 : (0 : Int) ≤ (i : Int) := by omega
  have HI := Lib.hid hi
  clear F k ky hy hi
  go_enter Tryz.func78, Tryz.ntmps78
  go_wp2_with fail
  have HAD := Lib.hid (HA.out.below (Below.refl _ w).drew)
  have hs0 := Lib.hid (And.intro HAD.out.k.gc.1 (And.intro HAD.out.k.gc.2.1 (((HAD.out.row HY.out.1 HY.out.2 (by decide) hyq).cell i).trans HE.out)))
  go_region_held3 (fun w9 => w9.cell? ⟨q, 4, none⟩ = some (.slice (some ⟨y, 0, none⟩) n cp) ∧ w9.cell? ⟨q, 5, none⟩ = some (.int .i64 (i : Int)) ∧ w9.cell? ⟨y, i, none⟩ = some (.int .i64 s))
    (first | exact hs0.out | exact hs1.out | exact hs2.out | exact hs3.out | fail)
    (first
      | (go_at_call 92; (with_reducible refine (at12 s 2 _).mono ?_); rintro ee wA ⟨rfl, bA⟩; have HA1 := Lib.hid (HAD.out.below bA); have hs1 := Lib.hid (And.intro HA1.out.k.gc.1 (And.intro HA1.out.k.gc.2.1 (((HA1.out.row HY.out.1 HY.out.2 (by decide) hyq).cell i).trans HE.out))); clear bA)
      | (go_at_call 82; (with_reducible refine (head_lo12 v 0 _ HA1.out.f.lay hu0).mono ?_); rintro ee wB ⟨rfl, hbB⟩; have HA2 := Lib.hid (HA1.out.below hbB); have hs2 := Lib.hid (And.intro HA2.out.k.gc.1 (And.intro HA2.out.k.gc.2.1 (((HA2.out.row HY.out.1 HY.out.2 (by decide) hyq).cell i).trans HE.out))); clear hbB)
      | (go_at_call 23; (with_reducible refine (HA2.out.f.stA hs (adS_at hr (by decide)) HU.out).mono ?_); rintro ee wC ⟨rfl, F5, o5⟩; have HA5 := Lib.hid (HA2.out.mem (by decide) F5 o5); have hs3 := Lib.hid (And.intro HA5.out.k.gc.1 (And.intro HA5.out.k.gc.2.1 (((HA5.out.row HY.out.1 HY.out.2 (by decide) hyq).cell i).trans HE.out))); clear F5 o5)
      | fail)
  all_goals
    go_wp2_with fail
    ((try simp only [Exit.inBlock, Exit.then]); first | go_end0 | refine bodyPost_ret (results_none rfl _ _ _) rfl ?_)
    exact ⟨rfl, HA5.out⟩
set_option maxRecDepth 100000 in
set_option maxHeartbeats 4000000 in
theorem linkG_on {j : Nat} (hq : 1 < q) (F : VX p b M w) (hs : M.s.st < 1000000) (k : Bq q 77 (UC nx hd to th (GTl (.slice (some ⟨y, 0, none⟩) n cp) (i : Int) rs)) w) (ky : Bq y 3 L w) (hj : (i : Int) + 1 = (j : Int)) (hy : L[i]? = some (.int .i64 s)) (hy' : L[j]? = some (.int .i64 s')) (_hjn : j < n) (hr : 0 ≤ s ∧ s < 256) (hn : (n : Int) = l1 + 1) (hl : l1 < 100000) (h : (j : Int) < l1) :
    Calls Tryz.prog 63 #[.pointer (some ⟨q, 0, none⟩), .pointer (some ⟨p, 0, none⟩)] w fun e w' => e = .returned (.int .i64 3) ∧ AtU p b q 77 nx hd to th (GTl (.slice (some ⟨y, 0, none⟩) n cp) (j : Int) rs) (stM M (adS s 2) (headW s' 0)) w w' := by
  have HA := Lib.hid (AtU.start F k)
  have HY := Lib.hid (And.intro F ky)
  have HK := Lib.hid k
  obtain ⟨g4, g5, g6⟩ := k.gc
  have y9 := (ky.cell j).trans hy'
  have HE := Lib.hid hy
  have HE' := Lib.hid hy'
  have hyq : y ≠ q := ky.ne k (by decide)
  have w9 : IntKind.i64.wrap (j : Int) = (j : Int) := by simp [IntKind.wrap, IntKind.bits, IntKind.signed]; omega
  have q9 : (j : Int) < (n : Int) := by omega
  have p9 : (0 : Int) ≤ (j : Int) := by omega
  have hi : i < n := by omega
  have HI := Lib.hid hi
  have HN := Lib.hid (And.intro hn (And.intro hl h))
  clear F k ky hy hy' hi hn hl h
  go_enter Tryz.func63, Tryz.ntmps63
  go_wp2_with fail
  have HAD := Lib.hid (HA.out.below (Below.refl _ w).drew)
  have hs0 := Lib.hid (And.intro HAD.out.k.gc.1 (And.intro HAD.out.k.gc.2.1 ((HAD.out.row HY.out.1 HY.out.2 (by decide) hyq).cell j |>.trans HE'.out)))
  clear g4 g5 g6 y9
  go_region_held3 (fun w9 => w9.cell? ⟨q, 4, none⟩ = some (.slice (some ⟨y, 0, none⟩) n cp) ∧ w9.cell? ⟨q, 5, none⟩ = some (.int .i64 (i : Int)) ∧ w9.cell? ⟨y, j, none⟩ = some (.int .i64 s'))
    (first | exact hs0.out | exact hs1.out | fail)
    (first
      | (go_at_call 78; (with_reducible refine (storeG HAD.out.f hs HAD.out.k (HAD.out.row HY.out.1 HY.out.2 (by decide) hyq) HE.out HI.out hr s').mono ?_); rintro ee w1 ⟨rfl, A1⟩; have HA1 := Lib.hid (A1.trans HAD.out.o); have hs1 := Lib.hid (And.intro HA1.out.k.gc.1 (And.intro HA1.out.k.gc.2.1 (((HA1.out.row HY.out.1 HY.out.2 (by decide) hyq).cell j).trans HE'.out))); clear A1)
      | fail)
  all_goals
  obtain ⟨g4, g5, g6⟩ := HA1.out.k.gc
  have z5 := HA1.out.k.free 5
  have HA2 := Lib.hid (HA1.out.set (by decide) hq 5 (.int .i64 (j : Int)) (nx' := nx) (hd' := hd) (to' := to) (th' := th) (tl' := GTl (.slice (some ⟨y, 0, none⟩) n cp) (j : Int) rs) rfl)
  go_wp2_with fail
  ((with_reducible refine (onwardG_on HA2.out.k HN.out.1 HN.out.2.1 (by have := HN.out.2.2; omega)).mono ?_); rintro ee w3 ⟨rfl, hb3⟩)
  go_wp2_with fail
  go_ret
  exact ⟨rfl, HA2.out.below hb3⟩
set_option maxRecDepth 100000 in
set_option maxHeartbeats 4000000 in
theorem linkG_end {j : Nat} (hq : 1 < q) (F : VX p b M w) (hs : M.s.st < 1000000) (k : Bq q 77 (UC nx hd to th (GTl (.slice (some ⟨y, 0, none⟩) n cp) (i : Int) rs)) w) (ky : Bq y 3 L w) (hj : (i : Int) + 1 = (j : Int)) (hy : L[i]? = some (.int .i64 s)) (hy' : L[j]? = some (.int .i64 s')) (_hjn : j < n) (hr : 0 ≤ s ∧ s < 256) (hn : (n : Int) = l1 + 1) (hl : l1 < 100000) (h : ¬ (j : Int) < l1) :
    Calls Tryz.prog 63 #[.pointer (some ⟨q, 0, none⟩), .pointer (some ⟨p, 0, none⟩)] w fun e w' => e = .returned (.int .i64 1) ∧ AtU p b q 77 nx hd to th (GTl (.slice (some ⟨y, 0, none⟩) n cp) (j : Int) rs) (stM M (adS s 2) (headW s' 0)) w w' := by
  have HA := Lib.hid (AtU.start F k)
  have HY := Lib.hid (And.intro F ky)
  have HK := Lib.hid k
  obtain ⟨g4, g5, g6⟩ := k.gc
  have y9 := (ky.cell j).trans hy'
  have HE := Lib.hid hy
  have HE' := Lib.hid hy'
  have hyq : y ≠ q := ky.ne k (by decide)
  have w9 : IntKind.i64.wrap (j : Int) = (j : Int) := by simp [IntKind.wrap, IntKind.bits, IntKind.signed]; omega
  have q9 : (j : Int) < (n : Int) := by omega
  have p9 : (0 : Int) ≤ (j : Int) := by omega
  have hi : i < n := by omega
  have HI := Lib.hid hi
  have HN := Lib.hid (And.intro hn (And.intro hl h))
  clear F k ky hy hy' hi hn hl h
  go_enter Tryz.func63, Tryz.ntmps63
  go_wp2_with fail
  have HAD := Lib.hid (HA.out.below (Below.refl _ w).drew)
  have hs0 := Lib.hid (And.intro HAD.out.k.gc.1 (And.intro HAD.out.k.gc.2.1 ((HAD.out.row HY.out.1 HY.out.2 (by decide) hyq).cell j |>.trans HE'.out)))
  clear g4 g5 g6 y9
  go_region_held3 (fun w9 => w9.cell? ⟨q, 4, none⟩ = some (.slice (some ⟨y, 0, none⟩) n cp) ∧ w9.cell? ⟨q, 5, none⟩ = some (.int .i64 (i : Int)) ∧ w9.cell? ⟨y, j, none⟩ = some (.int .i64 s'))
    (first | exact hs0.out | exact hs1.out | fail)
    (first
      | (go_at_call 78; (with_reducible refine (storeG HAD.out.f hs HAD.out.k (HAD.out.row HY.out.1 HY.out.2 (by decide) hyq) HE.out HI.out hr s').mono ?_); rintro ee w1 ⟨rfl, A1⟩; have HA1 := Lib.hid (A1.trans HAD.out.o); have hs1 := Lib.hid (And.intro HA1.out.k.gc.1 (And.intro HA1.out.k.gc.2.1 (((HA1.out.row HY.out.1 HY.out.2 (by decide) hyq).cell j).trans HE'.out))); clear A1)
      | fail)
  all_goals
  obtain ⟨g4, g5, g6⟩ := HA1.out.k.gc
  have z5 := HA1.out.k.free 5
  have HA2 := Lib.hid (HA1.out.set (by decide) hq 5 (.int .i64 (j : Int)) (nx' := nx) (hd' := hd) (to' := to) (th' := th) (tl' := GTl (.slice (some ⟨y, 0, none⟩) n cp) (j : Int) rs) rfl)
  go_wp2_with fail
  ((with_reducible refine (onwardG_end HA2.out.k HN.out.1 HN.out.2.1 (by have := HN.out.2.2; omega)).mono ?_); rintro ee w3 ⟨rfl, hb3⟩)
  go_wp2_with fail
  go_ret
  exact ⟨rfl, HA2.out.below hb3⟩
set_option maxHeartbeats 2000000 in
theorem readG (hq : 1 < q) (F : VX p b M w) (hs : M.s.st < 1000000) (k : Bq q 77 (UC nx hd to th (GTl sl ch rs)) w) (hv : M.V adO = v) :
    Calls Tryz.prog 64 #[.pointer (some ⟨q, 0, none⟩), .pointer (some ⟨p, 0, none⟩)] w fun e w' => e = .returned (.int .i64 4) ∧ AtU p b q 77 nx v to th (GTl sl ch (wSlot v)) (ldM M adO) w w' := by
  have HA := Lib.hid (AtU.start F k)
  have HV := Lib.hid hv
  clear F k hv
  go_enter Tryz.func64, Tryz.ntmps64
  go_wp2_with fail
  ((with_reducible refine (firstU (by decide) hq HA.out.f hs HA.out.k HV.out).mono ?_); rintro ee w1 ⟨rfl, A1⟩)
  have HA1 := Lib.hid A1
  clear A1
  obtain ⟨g4, g5, g6⟩ := HA1.out.k.gc
  have z6 := HA1.out.k.free 6
  have HA2 := Lib.hid (HA1.out.set (by decide) hq 6 (.int .i64 (wSlot v)) (nx' := nx) (hd' := v) (to' := to) (th' := th) (tl' := GTl sl ch (wSlot v)) rfl)
  go_wp2_with fail
  go_ret
  exact ⟨rfl, HA2.out⟩
set_option maxHeartbeats 2000000 in
theorem hangG (F : VX p b M w) (hs : M.s.st < 1000000) (k : Bq q 77 (UC nx hd to th (GTl (.slice (some ⟨y, 0, none⟩) n cp) (i : Int) rs)) w) (ky : Bq y 3 L w) (hy : L[i]? = some (.int .i64 s)) (hi : i < n) (hr : 0 ≤ s ∧ s < 256) :
    Calls Tryz.prog 65 #[.pointer (some ⟨q, 0, none⟩), .pointer (some ⟨p, 0, none⟩)] w fun e w' => e = .returned (.int .i64 2) ∧ AtU p b q 77 nx hd to th (GTl (.slice (some ⟨y, 0, none⟩) n cp) (i : Int) rs) (stM M (adS s 2) (headW rs 0)) w w' := by
  have HA := Lib.hid (AtU.start F k)
  have HY := Lib.hid (And.intro ky (And.intro hy hi))
  obtain ⟨g4, g5, g6⟩ := k.gc
  clear F k ky hy hi g4 g5
  go_enter Tryz.func65, Tryz.ntmps65
  go_wp2_with fail
  ((with_reducible refine (storeG HA.out.f hs HA.out.k HY.out.1 HY.out.2.1 HY.out.2.2 hr rs).mono ?_); rintro ee w1 ⟨rfl, A1⟩)
  have HA1 := Lib.hid A1
  clear A1 g6
  go_wp2_with fail
  go_ret
  exact ⟨rfl, HA1.out⟩
end
end Go.Proofs.YtjpanofkikfeoaaGreatDoor
namespace Go.Proofs.YtjpanofkikfeoaaGreatDoor
open Go.RowKit Go.Maps

section
variable {p b q y n cp : Nat} {A : Option Addr} {T t : TypeId} {nx hd to th ch rs es eg eb ec ed v s s' nx' hd' to' th' : Int} {ek c : Bool} {sl : Value} {tl tl' L : List Value} {M M' : MV} {w w' X : World}
set_option maxRecDepth 100000 in
set_option maxHeartbeats 4000000 in
theorem beginT (hq : 1 < q) (F : VX p b M w) (k : Bq q 82 (UC nx hd to th (TTl es eg ek eb ec ed sl)) w) (s : Int) :
    Calls Tryz.prog 83 #[.pointer (some ⟨q, 0, none⟩), .int .i64 s] w fun e w' => e = .returned (.tuple #[]) ∧ AtU p b q 82 nx hd to th (TTl s 0 false 0 0 0 sl) (M) w w' := by
  have HB0 := Lib.hid ((AtU.start F k))
  clear F k
  go_enter Tryz.func83, Tryz.ntmps83
  obtain ⟨g4, g5, g6, g7, g8, g9, g10⟩ := HB0.out.k.tc12
  have z0_4 := HB0.out.k.free 4
  have HB1 := Lib.hid (HB0.out.set (by decide) hq 4 (.int .i64 s) (nx' := nx) (hd' := hd) (to' := to) (th' := th) (tl' := TTl s eg ek eb ec ed sl) rfl)
  have z1_5 := HB1.out.k.free 5
  have HB2 := Lib.hid (HB1.out.set (by decide) hq 5 (.int .u32 0) (nx' := nx) (hd' := hd) (to' := to) (th' := th) (tl' := TTl s 0 ek eb ec ed sl) rfl)
  have z2_6 := HB2.out.k.free 6
  have HB3 := Lib.hid (HB2.out.set (by decide) hq 6 (.bool false) (nx' := nx) (hd' := hd) (to' := to) (th' := th) (tl' := TTl s 0 false eb ec ed sl) rfl)
  have z3_7 := HB3.out.k.free 7
  have HB4 := Lib.hid (HB3.out.set (by decide) hq 7 (.int .u64 0) (nx' := nx) (hd' := hd) (to' := to) (th' := th) (tl' := TTl s 0 false 0 ec ed sl) rfl)
  have z4_8 := HB4.out.k.free 8
  have HB5 := Lib.hid (HB4.out.set (by decide) hq 8 (.int .u64 0) (nx' := nx) (hd' := hd) (to' := to) (th' := th) (tl' := TTl s 0 false 0 0 ed sl) rfl)
  have z5_9 := HB5.out.k.free 9
  have HB6 := Lib.hid (HB5.out.set (by decide) hq 9 (.int .u64 0) (nx' := nx) (hd' := hd) (to' := to) (th' := th) (tl' := TTl s 0 false 0 0 0 sl) rfl)
  clear g10
  go_wp2_with fail
  ((try simp only [Exit.inBlock, Exit.then]); first | go_end0 | refine bodyPost_ret (results_none rfl _ _ _) rfl ?_)
  exact ⟨rfl, HB6.out⟩
set_option maxHeartbeats 2000000 in
theorem loadT {f : Int} (F : VX p b M w) (hs : M.s.st < 1000000) (k : Bq q 82 (UC nx hd to th (TTl es eg ek eb ec ed sl)) w) (hr : 0 ≤ es ∧ es < 256) (hf : 0 ≤ f ∧ f < 8) (hv : M.V (adS es f) = v) :
    Calls Tryz.prog 85 #[.pointer (some ⟨q, 0, none⟩), .pointer (some ⟨p, 0, none⟩), .int .i64 f] w fun e w' => e = .returned (.int .u64 v) ∧ AtU p b q 82 nx hd to th (TTl es eg ek eb ec ed sl) (ldM M (adS es f)) w w' := by
  have HA := Lib.hid (AtU.start F k)
  have HV := Lib.hid hv
  obtain ⟨g4, _⟩ := k.tc12
  clear F k hv
  go_enter Tryz.func85, Tryz.ntmps85
  go_wp2_with fail
  ((with_reducible refine (at12 es f _).mono ?_); rintro ee w1 ⟨rfl, hb1⟩)
  have HA1 := Lib.hid (HA.out.below hb1)
  clear hb1
  go_wp2_with fail
  ((with_reducible refine (HA1.out.f.ldA hs (adS_at hr hf) HV.out).mono ?_); rintro ee w2 ⟨rfl, F2, o2⟩)
  have HA2 := Lib.hid (HA1.out.mem (by decide) F2 o2)
  go_wp2_with fail
  go_ret
  exact ⟨rfl, HA2.out⟩
set_option maxHeartbeats 2000000 in
theorem readT_none (hq : 1 < q) (F : VX p b M w) (hs : M.s.st < 1000000) (k : Bq q 82 (UC nx hd to th (TTl es eg ek eb ec ed sl)) w) (hv : M.V adO = v) (h : wSlot v < 0) :
    Calls Tryz.prog 67 #[.pointer (some ⟨q, 0, none⟩), .pointer (some ⟨p, 0, none⟩)] w fun e w' => e = .returned (.int .i64 0) ∧ AtU p b q 82 nx v to th (TTl es eg ek eb ec ed sl) (ldM M adO) w w' := by
  have HA := Lib.hid (AtU.start F k)
  have HV := Lib.hid hv
  clear F k hv
  go_enter Tryz.func67, Tryz.ntmps67
  go_wp2_with fail
  ((with_reducible refine (firstU (by decide) hq HA.out.f hs HA.out.k HV.out).mono ?_); rintro ee w1 ⟨rfl, A1⟩)
  have HA1 := Lib.hid A1
  clear A1
  go_wp2_with fail
  go_ret
  exact ⟨rfl, HA1.out⟩
set_option maxHeartbeats 2000000 in
theorem readT_some (hq : 1 < q) (F : VX p b M w) (hs : M.s.st < 1000000) (k : Bq q 82 (UC nx hd to th (TTl es eg ek eb ec ed sl)) w) (hv : M.V adO = v) (h : ¬ wSlot v < 0) :
    Calls Tryz.prog 67 #[.pointer (some ⟨q, 0, none⟩), .pointer (some ⟨p, 0, none⟩)] w fun e w' => e = .returned (.int .i64 2) ∧ AtU p b q 82 nx v to th (TTl (wSlot v) 0 false 0 0 0 sl) (ldM M adO) w w' := by
  have HA := Lib.hid (AtU.start F k)
  have HV := Lib.hid hv
  clear F k hv
  go_enter Tryz.func67, Tryz.ntmps67
  go_wp2_with fail
  ((with_reducible refine (firstU (by decide) hq HA.out.f hs HA.out.k HV.out).mono ?_); rintro ee w1 ⟨rfl, A1⟩)
  have HA1 := Lib.hid A1
  clear A1
  go_wp2_with fail
  ((with_reducible refine (beginT hq HA1.out.f HA1.out.k (wSlot v)).mono ?_); rintro ee w2 ⟨rfl, A2⟩)
  have HA2 := Lib.hid (A2.trans HA1.out.o)
  clear A2
  go_wp2_with fail
  go_ret
  exact ⟨rfl, HA2.out⟩
set_option maxRecDepth 100000 in
set_option maxHeartbeats 4000000 in
theorem headerT (hq : 1 < q) (F : VX p b M w) (hs : M.s.st < 1000000) (k : Bq q 82 (UC nx hd to th (TTl es eg ek eb ec ed sl)) w) (hr : 0 ≤ es ∧ es < 256) (hv : M.V (adS es 0) = v) :
    Calls Tryz.prog 68 #[.pointer (some ⟨q, 0, none⟩), .pointer (some ⟨p, 0, none⟩)] w fun e w' => e = .returned (.int .i64 4) ∧ AtU p b q 82 nx hd to th (TTl es (fld v 3 32) ek eb ec ed sl) (ldM M (adS es 0)) w w' := by
  have HA := Lib.hid (AtU.start F k)
  have hu : U64 v := hv ▸ F.u64 _
  have HV := Lib.hid hv
  have _ := hq
  clear F k hv
  go_enter Tryz.func68, Tryz.ntmps68
  go_wp2_with fail
  ((with_reducible refine (loadT HA.out.f hs HA.out.k hr (by decide) HV.out).mono ?_); rintro ee w1 ⟨rfl, A1⟩)
  have HA1 := Lib.hid A1
  clear A1
  go_wp2_with fail
  ((with_reducible refine (asHeader_lo12 v _ HA1.out.f.lay hu).mono ?_); rintro ee w2 ⟨rfl, hb2⟩)
  have HA2 := Lib.hid (HA1.out.below hb2)
  clear hb2
  obtain ⟨g4, g5, g6, g7, g8, g9, g10⟩ := HA2.out.k.tc12
  have z5 := HA2.out.k.free 5
  have HA3 := Lib.hid (HA2.out.set (by decide) hq 5 (.int .u32 (fld v 3 32)) (nx' := nx) (hd' := hd) (to' := to) (th' := th) (tl' := TTl es (fld v 3 32) ek eb ec ed sl) rfl)
  clear g4 g6 g7 g8 g9 g10
  go_wp2_with fail
  go_ret
  exact ⟨rfl, HA3.out⟩
set_option maxRecDepth 100000 in
set_option maxHeartbeats 4000000 in
theorem birthT (hq : 1 < q) (F : VX p b M w) (hs : M.s.st < 1000000) (k : Bq q 82 (UC nx hd to th (TTl es eg ek eb ec ed sl)) w) (hr : 0 ≤ es ∧ es < 256) (hv : M.V (adS es 1) = v) :
    Calls Tryz.prog 69 #[.pointer (some ⟨q, 0, none⟩), .pointer (some ⟨p, 0, none⟩)] w fun e w' => e = .returned (.int .i64 5) ∧ AtU p b q 82 nx hd to th (TTl es eg ek v ec ed sl) (ldM M (adS es 1)) w w' := by
  have HA := Lib.hid (AtU.start F k)
  have hu : U64 v := hv ▸ F.u64 _
  have HV := Lib.hid hv
  have _ := hq
  clear F k hv
  go_enter Tryz.func69, Tryz.ntmps69
  go_wp2_with fail
  ((with_reducible refine (loadT HA.out.f hs HA.out.k hr (by decide) HV.out).mono ?_); rintro ee w1 ⟨rfl, A1⟩)
  have HA1 := Lib.hid A1
  clear A1
  obtain ⟨g4, g5, g6, g7, g8, g9, g10⟩ := HA1.out.k.tc12
  have z7 := HA1.out.k.free 7
  have HA3 := Lib.hid (HA1.out.set (by decide) hq 7 (.int .u64 v) (nx' := nx) (hd' := hd) (to' := to) (th' := th) (tl' := TTl es eg ek v ec ed sl) rfl)
  clear g4 g5 g6 g8 g9 g10
  go_wp2_with fail
  go_ret
  exact ⟨rfl, HA3.out⟩
set_option maxRecDepth 100000 in
set_option maxHeartbeats 4000000 in
theorem epochT (hq : 1 < q) (F : VX p b M w) (hs : M.s.st < 1000000) (k : Bq q 82 (UC nx hd to th (TTl es eg ek eb ec ed sl)) w) (hr : 0 ≤ es ∧ es < 256) (hv : M.V (adS es 3) = v) :
    Calls Tryz.prog 70 #[.pointer (some ⟨q, 0, none⟩), .pointer (some ⟨p, 0, none⟩)] w fun e w' => e = .returned (.int .i64 6) ∧ AtU p b q 82 nx hd to th (TTl es eg ek eb v ed sl) (ldM M (adS es 3)) w w' := by
  have HA := Lib.hid (AtU.start F k)
  have hu : U64 v := hv ▸ F.u64 _
  have HV := Lib.hid hv
  have _ := hq
  clear F k hv
  go_enter Tryz.func70, Tryz.ntmps70
  go_wp2_with fail
  ((with_reducible refine (loadT HA.out.f hs HA.out.k hr (by decide) HV.out).mono ?_); rintro ee w1 ⟨rfl, A1⟩)
  have HA1 := Lib.hid A1
  clear A1
  obtain ⟨g4, g5, g6, g7, g8, g9, g10⟩ := HA1.out.k.tc12
  have z8 := HA1.out.k.free 8
  have HA3 := Lib.hid (HA1.out.set (by decide) hq 8 (.int .u64 v) (nx' := nx) (hd' := hd) (to' := to) (th' := th) (tl' := TTl es eg ek eb v ed sl) rfl)
  clear g4 g5 g6 g7 g9 g10
  go_wp2_with fail
  go_ret
  exact ⟨rfl, HA3.out⟩
set_option maxRecDepth 100000 in
set_option maxHeartbeats 4000000 in
theorem followT_none (hq : 1 < q) (F : VX p b M w) (hs : M.s.st < 1000000) (k : Bq q 82 (UC nx hd to th (TTl es eg ek eb ec ed (.slice A n cp))) w) (hr : 0 ≤ es ∧ es < 256) (hv : M.V (adS es 2) = v) (h : wSlot v < 0) :
    Calls Tryz.prog 72 #[.pointer (some ⟨q, 0, none⟩), .pointer (some ⟨p, 0, none⟩)] w fun e w' => e = .returned (.int .i64 0) ∧ AtU p b q 82 nx hd to th (TTl es eg ek eb ec ed (.slice A n cp)) (ldM M (adS es 2)) w w' := by
  have HA := Lib.hid (AtU.start F k)
  have hu : U64 v := hv ▸ F.u64 _
  have HV := Lib.hid hv
  have _ := hq
  clear F k hv
  go_enter Tryz.func72, Tryz.ntmps72
  go_wp2_with fail
  ((with_reducible refine (loadT HA.out.f hs HA.out.k hr (by decide) HV.out).mono ?_); rintro ee w1 ⟨rfl, A1⟩)
  have HA1 := Lib.hid A1
  clear A1
  go_wp2_with fail
  ((with_reducible refine (asHead_lo12 v _ HA1.out.f.lay hu).mono ?_); rintro ee w2 ⟨rfl, hb2⟩)
  have HA2 := Lib.hid (HA1.out.below hb2)
  clear hb2
  obtain ⟨g4, g5, g6, g7, g8, g9, g10⟩ := HA2.out.k.tc12
  clear g4 g5 g6 g7 g8 g9
  go_wp2_with fail
  go_ret
  exact ⟨rfl, HA2.out⟩
set_option maxRecDepth 100000 in
set_option maxHeartbeats 4000000 in
theorem followT_full (hq : 1 < q) (F : VX p b M w) (hs : M.s.st < 1000000) (k : Bq q 82 (UC nx hd to th (TTl es eg ek eb ec ed (.slice A n cp))) w) (hr : 0 ≤ es ∧ es < 256) (hv : M.V (adS es 2) = v) (h : ¬ wSlot v < 0) (hl : (256 : Int) ≤ (n : Int)) :
    Calls Tryz.prog 72 #[.pointer (some ⟨q, 0, none⟩), .pointer (some ⟨p, 0, none⟩)] w fun e w' => e = .returned (.int .i64 0) ∧ AtU p b q 82 nx hd to th (TTl es eg ek eb ec ed (.slice A n cp)) (ldM M (adS es 2)) w w' := by
  have HA := Lib.hid (AtU.start F k)
  have hu : U64 v := hv ▸ F.u64 _
  have HV := Lib.hid hv
  have _ := hq
  clear F k hv
  go_enter Tryz.func72, Tryz.ntmps72
  go_wp2_with fail
  ((with_reducible refine (loadT HA.out.f hs HA.out.k hr (by decide) HV.out).mono ?_); rintro ee w1 ⟨rfl, A1⟩)
  have HA1 := Lib.hid A1
  clear A1
  go_wp2_with fail
  ((with_reducible refine (asHead_lo12 v _ HA1.out.f.lay hu).mono ?_); rintro ee w2 ⟨rfl, hb2⟩)
  have HA2 := Lib.hid (HA1.out.below hb2)
  clear hb2
  obtain ⟨g4, g5, g6, g7, g8, g9, g10⟩ := HA2.out.k.tc12
  clear g4 g5 g6 g7 g8 g9
  go_wp2_with fail
  go_ret
  exact ⟨rfl, HA2.out⟩
set_option maxRecDepth 100000 in
set_option maxHeartbeats 4000000 in
theorem followT_on (hq : 1 < q) (F : VX p b M w) (hs : M.s.st < 1000000) (k : Bq q 82 (UC nx hd to th (TTl es eg ek eb ec ed (.slice A n cp))) w) (hr : 0 ≤ es ∧ es < 256) (hv : M.V (adS es 2) = v) (h : ¬ wSlot v < 0) (hl : ¬ (256 : Int) ≤ (n : Int)) :
    Calls Tryz.prog 72 #[.pointer (some ⟨q, 0, none⟩), .pointer (some ⟨p, 0, none⟩)] w fun e w' => e = .returned (.int .i64 3) ∧ AtU p b q 82 nx hd to th (TTl (wSlot v) 0 false 0 0 0 (.slice A n cp)) (ldM M (adS es 2)) w w' := by
  have HA := Lib.hid (AtU.start F k)
  have hu : U64 v := hv ▸ F.u64 _
  have HV := Lib.hid hv
  have _ := hq
  clear F k hv
  go_enter Tryz.func72, Tryz.ntmps72
  go_wp2_with fail
  ((with_reducible refine (loadT HA.out.f hs HA.out.k hr (by decide) HV.out).mono ?_); rintro ee w1 ⟨rfl, A1⟩)
  have HA1 := Lib.hid A1
  clear A1
  go_wp2_with fail
  ((with_reducible refine (asHead_lo12 v _ HA1.out.f.lay hu).mono ?_); rintro ee w2 ⟨rfl, hb2⟩)
  have HA2 := Lib.hid (HA1.out.below hb2)
  clear hb2
  obtain ⟨g4, g5, g6, g7, g8, g9, g10⟩ := HA2.out.k.tc12
  clear g4 g5 g6 g7 g8 g9
  go_wp2_with fail
  ((with_reducible refine (beginT hq HA2.out.f HA2.out.k (wSlot v)).mono ?_); rintro ee w3 ⟨rfl, A3⟩)
  have HA3 := Lib.hid (A3.trans HA2.out.o)
  clear A3 g10
  go_wp2_with fail
  go_ret
  exact ⟨rfl, HA3.out⟩
end
end Go.Proofs.YtjpanofkikfeoaaGreatDoor
namespace Go.Proofs.YtjpanofkikfeoaaGreatDoor
open Go.RowKit Go.Maps

theorem results_cell12 {P : Program} {fn : Func} {p : Tmp} {ty : TypeId} (h : fn.results = #[.cell p ty]) (tmps : Array Value) (w : World) (g : Nat) (t : TypeId) (cs : Array Value) (fr : Nat × Nat) (d : TypeDesc)
    (hp : tmps.getD p undef = .pointer (some ⟨g, 0, none⟩)) (hg : w.heap[g]? = some (.cells cs t fr))
    (hu : P.underlying ty = some d) (hd : (match d with | .struct _ | .array _ _ => true | _ => false) = true) (hi : (P.info? ty).map (·.size) = some cs.size) :
    (results fn tmps).run P w = .ok (.agg cs) w := by
  have hp' : tmps[p]?.getD undef = .pointer (some ⟨g, 0, none⟩) := by simpa using hp
  simp [results, h, hp', asAddr, run_loadVar_row w g t ty cs fr d hg hu hd hi]
theorem mOG_2 (q : Nat) (w : World) : (method (297) 40 (.pointer (some ⟨q, 0, none⟩)) "ragpicker/orphans.swap").run Tryz.prog w = .ok (66, .pointer (some ⟨q, 0, none⟩)) w := by kernel_rfl
theorem iOG_1 (w : World) : (Instr.index 112 (.agg #[.nilFunc, .func (.func 64) #[] #[], .func (.methodOf 40 "ragpicker/orphans.swap") #[] #[], .func (.func 63) #[] #[], .func (.func 65) #[] #[]]) (.int .i64 1)).run Tryz.prog w = .ok (.func (.func 64) #[] #[]) w := by kernel_rfl
theorem iOG_2 (w : World) : (Instr.index 112 (.agg #[.nilFunc, .func (.func 64) #[] #[], .func (.methodOf 40 "ragpicker/orphans.swap") #[] #[], .func (.func 63) #[] #[], .func (.func 65) #[] #[]]) (.int .i64 2)).run Tryz.prog w = .ok (.func (.methodOf 40 "ragpicker/orphans.swap") #[] #[]) w := by kernel_rfl
theorem iOG_3 (w : World) : (Instr.index 112 (.agg #[.nilFunc, .func (.func 64) #[] #[], .func (.methodOf 40 "ragpicker/orphans.swap") #[] #[], .func (.func 63) #[] #[], .func (.func 65) #[] #[]]) (.int .i64 3)).run Tryz.prog w = .ok (.func (.func 63) #[] #[]) w := by kernel_rfl
theorem iOG_4 (w : World) : (Instr.index 112 (.agg #[.nilFunc, .func (.func 64) #[] #[], .func (.methodOf 40 "ragpicker/orphans.swap") #[] #[], .func (.func 63) #[] #[], .func (.func 65) #[] #[]]) (.int .i64 4)).run Tryz.prog w = .ok (.func (.func 65) #[] #[]) w := by kernel_rfl
theorem linesOG (w : World) : Calls Tryz.prog 50 #[] w fun e w' => e = .returned (.agg #[.nilFunc, .func (.func 64) #[] #[], .func (.methodOf 40 "ragpicker/orphans.swap") #[] #[], .func (.func 63) #[] #[], .func (.func 65) #[] #[]]) ∧ Below w.heap.size w w' := by
  go_enter Tryz.func50, Tryz.ntmps50
  have k0 : (w.alloc (.cells #[.nilFunc, .nilFunc, .nilFunc, .nilFunc, .nilFunc] 112)).heap[w.heap.size]? = some (.cells #[.nilFunc, .nilFunc, .nilFunc, .nilFunc, .nilFunc] 112 (0, 0)) := alloc_blk _ _
  go_wp2_with (refine wpList_store_put rfl 112 _ _ rfl w.heap.size rfl #[.nilFunc, .func (.func 64) #[] #[], .func (.methodOf 40 "ragpicker/orphans.swap") #[] #[], .func (.func 63) #[] #[], .func (.func 65) #[] #[]] rfl 112 _ k0 (by kernel_rfl) rfl (by decide) ?_; intro w1 hp)
  exact bodyPost_ret (results_cell12 Tryz.results50 _ _ _ _ _ _ _ rfl hp.at_ Tryz.underlying112 rfl (by kernel_rfl)) rfl ⟨rfl, hp.below ((Below.refl _ _).alloc (Nat.le_refl _) _) (Nat.le_refl _)⟩
theorem mOT_2 (q : Nat) (w : World) : (method (297) 44 (.pointer (some ⟨q, 0, none⟩)) "ragpicker/orphans.swap").run Tryz.prog w = .ok (66, .pointer (some ⟨q, 0, none⟩)) w := by kernel_rfl
theorem iOT_1 (w : World) : (Instr.index 115 (.agg #[.nilFunc, .func (.func 67) #[] #[], .func (.methodOf 44 "ragpicker/orphans.swap") #[] #[], .func (.func 68) #[] #[], .func (.func 69) #[] #[], .func (.func 70) #[] #[], .func (.func 71) #[] #[], .func (.func 72) #[] #[]]) (.int .i64 1)).run Tryz.prog w = .ok (.func (.func 67) #[] #[]) w := by kernel_rfl
theorem iOT_2 (w : World) : (Instr.index 115 (.agg #[.nilFunc, .func (.func 67) #[] #[], .func (.methodOf 44 "ragpicker/orphans.swap") #[] #[], .func (.func 68) #[] #[], .func (.func 69) #[] #[], .func (.func 70) #[] #[], .func (.func 71) #[] #[], .func (.func 72) #[] #[]]) (.int .i64 2)).run Tryz.prog w = .ok (.func (.methodOf 44 "ragpicker/orphans.swap") #[] #[]) w := by kernel_rfl
theorem iOT_3 (w : World) : (Instr.index 115 (.agg #[.nilFunc, .func (.func 67) #[] #[], .func (.methodOf 44 "ragpicker/orphans.swap") #[] #[], .func (.func 68) #[] #[], .func (.func 69) #[] #[], .func (.func 70) #[] #[], .func (.func 71) #[] #[], .func (.func 72) #[] #[]]) (.int .i64 3)).run Tryz.prog w = .ok (.func (.func 68) #[] #[]) w := by kernel_rfl
theorem iOT_4 (w : World) : (Instr.index 115 (.agg #[.nilFunc, .func (.func 67) #[] #[], .func (.methodOf 44 "ragpicker/orphans.swap") #[] #[], .func (.func 68) #[] #[], .func (.func 69) #[] #[], .func (.func 70) #[] #[], .func (.func 71) #[] #[], .func (.func 72) #[] #[]]) (.int .i64 4)).run Tryz.prog w = .ok (.func (.func 69) #[] #[]) w := by kernel_rfl
theorem iOT_5 (w : World) : (Instr.index 115 (.agg #[.nilFunc, .func (.func 67) #[] #[], .func (.methodOf 44 "ragpicker/orphans.swap") #[] #[], .func (.func 68) #[] #[], .func (.func 69) #[] #[], .func (.func 70) #[] #[], .func (.func 71) #[] #[], .func (.func 72) #[] #[]]) (.int .i64 5)).run Tryz.prog w = .ok (.func (.func 70) #[] #[]) w := by kernel_rfl
theorem iOT_6 (w : World) : (Instr.index 115 (.agg #[.nilFunc, .func (.func 67) #[] #[], .func (.methodOf 44 "ragpicker/orphans.swap") #[] #[], .func (.func 68) #[] #[], .func (.func 69) #[] #[], .func (.func 70) #[] #[], .func (.func 71) #[] #[], .func (.func 72) #[] #[]]) (.int .i64 6)).run Tryz.prog w = .ok (.func (.func 71) #[] #[]) w := by kernel_rfl
theorem iOT_7 (w : World) : (Instr.index 115 (.agg #[.nilFunc, .func (.func 67) #[] #[], .func (.methodOf 44 "ragpicker/orphans.swap") #[] #[], .func (.func 68) #[] #[], .func (.func 69) #[] #[], .func (.func 70) #[] #[], .func (.func 71) #[] #[], .func (.func 72) #[] #[]]) (.int .i64 7)).run Tryz.prog w = .ok (.func (.func 72) #[] #[]) w := by kernel_rfl
theorem linesOT (w : World) : Calls Tryz.prog 52 #[] w fun e w' => e = .returned (.agg #[.nilFunc, .func (.func 67) #[] #[], .func (.methodOf 44 "ragpicker/orphans.swap") #[] #[], .func (.func 68) #[] #[], .func (.func 69) #[] #[], .func (.func 70) #[] #[], .func (.func 71) #[] #[], .func (.func 72) #[] #[]]) ∧ Below w.heap.size w w' := by
  go_enter Tryz.func52, Tryz.ntmps52
  have k0 : (w.alloc (.cells #[.nilFunc, .nilFunc, .nilFunc, .nilFunc, .nilFunc, .nilFunc, .nilFunc, .nilFunc] 115)).heap[w.heap.size]? = some (.cells #[.nilFunc, .nilFunc, .nilFunc, .nilFunc, .nilFunc, .nilFunc, .nilFunc, .nilFunc] 115 (0, 0)) := alloc_blk _ _
  go_wp2_with (refine wpList_store_put rfl 115 _ _ rfl w.heap.size rfl #[.nilFunc, .func (.func 67) #[] #[], .func (.methodOf 44 "ragpicker/orphans.swap") #[] #[], .func (.func 68) #[] #[], .func (.func 69) #[] #[], .func (.func 70) #[] #[], .func (.func 71) #[] #[], .func (.func 72) #[] #[]] rfl 115 _ k0 (by kernel_rfl) rfl (by decide) ?_; intro w1 hp)
  exact bodyPost_ret (results_cell12 Tryz.results52 _ _ _ _ _ _ _ rfl hp.at_ Tryz.underlying115 rfl (by kernel_rfl)) rfl ⟨rfl, hp.below ((Below.refl _ _).alloc (Nat.le_refl _) _) (Nat.le_refl _)⟩
end Go.Proofs.YtjpanofkikfeoaaGreatDoor
namespace Go.Proofs.YtjpanofkikfeoaaGreatDoor
open Go.RowKit Go.Maps

section
variable {p b q y : Nat} {n : Int} {Q : World → Prop} {T t : TypeId} {nx hd to th ch rs es eg eb ec ed v s s' nx' hd' to' th' : Int} {ek c : Bool} {sl : Value} {tl tl' L : List Value} {M M' : MV} {w w' X : World}
theorem overOG_nil (w : World) : Calls Tryz.prog 27 #[.pointer none] w fun e w' => e = .returned (.bool true) ∧ w' = w := by
  go_enter Tryz.func27, Tryz.ntmps27
  go_wp2_with fail
  go_ret
  exact ⟨rfl, rfl⟩
theorem overOG (k : Bq q T (UC nx hd to th tl) w) : Calls Tryz.prog 27 #[.pointer (some ⟨q, 0, none⟩)] w fun e w' => e = .returned (.bool (nx == 0)) ∧ w' = w := by
  have HK := Lib.hid k
  clear k
  go_enter Tryz.func27, Tryz.ntmps27
  go_wp2_with fail
  ((with_reducible refine (overU HK.out).mono ?_); rintro ee w1 ⟨rfl, rfl⟩)
  go_wp2_with fail
  go_ret
  exact ⟨rfl, rfl⟩
theorem stepOG_nil (m : Value) (w : World) : Calls Tryz.prog 26 #[.pointer none, m] w fun e w' => e = .returned (.bool true) ∧ w' = w := by
  go_enter Tryz.func26, Tryz.ntmps26
  go_wp2_with fail
  ((with_reducible refine (overOG_nil _).mono ?_); rintro ee w1 ⟨rfl, rfl⟩)
  go_wp2_with fail
  go_ret
  exact ⟨rfl, rfl⟩
theorem stepOG_over (m : Value) (k : Bq q T (UC 0 hd to th tl) w) : Calls Tryz.prog 26 #[.pointer (some ⟨q, 0, none⟩), m] w fun e w' => e = .returned (.bool true) ∧ w' = w := by
  have HK := Lib.hid k
  clear k
  go_enter Tryz.func26, Tryz.ntmps26
  go_wp2_with fail
  ((with_reducible refine (overOG HK.out).mono ?_); rintro ee w1 ⟨rfl, rfl⟩)
  go_wp2_with fail
  go_ret
  exact ⟨rfl, rfl⟩
set_option maxRecDepth 100000 in
set_option maxHeartbeats 4000000 in
theorem stepOG_1 (k : Bq q 77 (UC 1 hd to th tl) w) (hl : ∀ X, Below w.heap.size w X → Calls Tryz.prog 64 #[.pointer (some ⟨q, 0, none⟩), .pointer (some ⟨p, 0, none⟩)] X fun e Y => e = .returned (.int .i64 n) ∧ Q Y) (hk : ∀ Y, Q Y → ∃ hd to th tl, Bq q 77 (UC 1 hd to th tl) Y) :
    Calls Tryz.prog 26 #[.pointer (some ⟨q, 0, none⟩), .pointer (some ⟨p, 0, none⟩)] w fun e w' => e = .returned (.bool (n == 0)) ∧ ∃ Y, Q Y ∧ w' = Y.setCell ⟨q, 0, none⟩ (.int .i64 n) := by
  have HK := Lib.hid k
  have HL := Lib.hid hl
  have HKQ := Lib.hid hk
  have c0 := k.uc.1
  have hi := iOG_1
  clear k hl hk
  go_enter Tryz.func26, Tryz.ntmps26
  go_wp2_with (go_at_call 27; refine (overOG HK.out).mono ?_; rintro ee w ⟨rfl, rfl⟩)
  go_region_with (first
    | (go_at_call 50; refine (linesOG _).mono ?_; rintro ee wA ⟨rfl, hA⟩; have HA := Lib.hid (show Below w.heap.size w wA from ((Below.refl _ w).drew).trans hA); have cA := (HK.out.below HA.out).uc.1; clear hA)
    | (go_at_call 64; refine (HL.out wA HA.out).mono ?_; rintro ee wB ⟨rfl, aB⟩; obtain ⟨hd1, to1, th1, tl1, kB⟩ := HKQ.out wB aB; have cB := kB.uc.1; have zB := kB.free 0; have HAB := Lib.hid aB; have HKB := Lib.hid kB; clear aB kB))
  all_goals
    have HAC := Lib.hid (HKB.out.set 0 (.int .i64 n) (cs' := UC n hd1 to1 th1 tl1) rfl)
    go_wp2_with (go_at_call 51; refine (overU HAC.out).mono ?_; rintro ee w ⟨rfl, rfl⟩)
    go_ret
    exact ⟨rfl, wB, HAB.out, rfl⟩
set_option maxRecDepth 100000 in
set_option maxHeartbeats 4000000 in
theorem stepOG_2 (k : Bq q 77 (UC 2 hd to th tl) w) (hl : ∀ X, Below w.heap.size w X → Calls Tryz.prog 66 #[.pointer (some ⟨q, 0, none⟩), .pointer (some ⟨p, 0, none⟩)] X fun e Y => e = .returned (.int .i64 n) ∧ Q Y) (hk : ∀ Y, Q Y → ∃ hd to th tl, Bq q 77 (UC 2 hd to th tl) Y) :
    Calls Tryz.prog 26 #[.pointer (some ⟨q, 0, none⟩), .pointer (some ⟨p, 0, none⟩)] w fun e w' => e = .returned (.bool (n == 0)) ∧ ∃ Y, Q Y ∧ w' = Y.setCell ⟨q, 0, none⟩ (.int .i64 n) := by
  have HK := Lib.hid k
  have HL := Lib.hid hl
  have HKQ := Lib.hid hk
  have c0 := k.uc.1
  have hm := mOG_2 q
  have hi := iOG_2
  clear k hl hk
  go_enter Tryz.func26, Tryz.ntmps26
  go_wp2_with (go_at_call 27; refine (overOG HK.out).mono ?_; rintro ee w ⟨rfl, rfl⟩)
  go_region_with (first
    | (go_at_call 50; refine (linesOG _).mono ?_; rintro ee wA ⟨rfl, hA⟩; have HA := Lib.hid (show Below w.heap.size w wA from ((Below.refl _ w).drew).trans hA); have cA := (HK.out.below HA.out).uc.1; clear hA)
    | (go_at_call 66; refine (HL.out wA HA.out).mono ?_; rintro ee wB ⟨rfl, aB⟩; obtain ⟨hd1, to1, th1, tl1, kB⟩ := HKQ.out wB aB; have cB := kB.uc.1; have zB := kB.free 0; have HAB := Lib.hid aB; have HKB := Lib.hid kB; clear aB kB))
  all_goals
    have HAC := Lib.hid (HKB.out.set 0 (.int .i64 n) (cs' := UC n hd1 to1 th1 tl1) rfl)
    go_wp2_with (go_at_call 51; refine (overU HAC.out).mono ?_; rintro ee w ⟨rfl, rfl⟩)
    go_ret
    exact ⟨rfl, wB, HAB.out, rfl⟩
set_option maxRecDepth 100000 in
set_option maxHeartbeats 4000000 in
theorem stepOG_3 (k : Bq q 77 (UC 3 hd to th tl) w) (hl : ∀ X, Below w.heap.size w X → Calls Tryz.prog 63 #[.pointer (some ⟨q, 0, none⟩), .pointer (some ⟨p, 0, none⟩)] X fun e Y => e = .returned (.int .i64 n) ∧ Q Y) (hk : ∀ Y, Q Y → ∃ hd to th tl, Bq q 77 (UC 3 hd to th tl) Y) :
    Calls Tryz.prog 26 #[.pointer (some ⟨q, 0, none⟩), .pointer (some ⟨p, 0, none⟩)] w fun e w' => e = .returned (.bool (n == 0)) ∧ ∃ Y, Q Y ∧ w' = Y.setCell ⟨q, 0, none⟩ (.int .i64 n) := by
  have HK := Lib.hid k
  have HL := Lib.hid hl
  have HKQ := Lib.hid hk
  have c0 := k.uc.1
  have hi := iOG_3
  clear k hl hk
  go_enter Tryz.func26, Tryz.ntmps26
  go_wp2_with (go_at_call 27; refine (overOG HK.out).mono ?_; rintro ee w ⟨rfl, rfl⟩)
  go_region_with (first
    | (go_at_call 50; refine (linesOG _).mono ?_; rintro ee wA ⟨rfl, hA⟩; have HA := Lib.hid (show Below w.heap.size w wA from ((Below.refl _ w).drew).trans hA); have cA := (HK.out.below HA.out).uc.1; clear hA)
    | (go_at_call 63; refine (HL.out wA HA.out).mono ?_; rintro ee wB ⟨rfl, aB⟩; obtain ⟨hd1, to1, th1, tl1, kB⟩ := HKQ.out wB aB; have cB := kB.uc.1; have zB := kB.free 0; have HAB := Lib.hid aB; have HKB := Lib.hid kB; clear aB kB))
  all_goals
    have HAC := Lib.hid (HKB.out.set 0 (.int .i64 n) (cs' := UC n hd1 to1 th1 tl1) rfl)
    go_wp2_with (go_at_call 51; refine (overU HAC.out).mono ?_; rintro ee w ⟨rfl, rfl⟩)
    go_ret
    exact ⟨rfl, wB, HAB.out, rfl⟩
set_option maxRecDepth 100000 in
set_option maxHeartbeats 4000000 in
theorem stepOG_4 (k : Bq q 77 (UC 4 hd to th tl) w) (hl : ∀ X, Below w.heap.size w X → Calls Tryz.prog 65 #[.pointer (some ⟨q, 0, none⟩), .pointer (some ⟨p, 0, none⟩)] X fun e Y => e = .returned (.int .i64 n) ∧ Q Y) (hk : ∀ Y, Q Y → ∃ hd to th tl, Bq q 77 (UC 4 hd to th tl) Y) :
    Calls Tryz.prog 26 #[.pointer (some ⟨q, 0, none⟩), .pointer (some ⟨p, 0, none⟩)] w fun e w' => e = .returned (.bool (n == 0)) ∧ ∃ Y, Q Y ∧ w' = Y.setCell ⟨q, 0, none⟩ (.int .i64 n) := by
  have HK := Lib.hid k
  have HL := Lib.hid hl
  have HKQ := Lib.hid hk
  have c0 := k.uc.1
  have hi := iOG_4
  clear k hl hk
  go_enter Tryz.func26, Tryz.ntmps26
  go_wp2_with (go_at_call 27; refine (overOG HK.out).mono ?_; rintro ee w ⟨rfl, rfl⟩)
  go_region_with (first
    | (go_at_call 50; refine (linesOG _).mono ?_; rintro ee wA ⟨rfl, hA⟩; have HA := Lib.hid (show Below w.heap.size w wA from ((Below.refl _ w).drew).trans hA); have cA := (HK.out.below HA.out).uc.1; clear hA)
    | (go_at_call 65; refine (HL.out wA HA.out).mono ?_; rintro ee wB ⟨rfl, aB⟩; obtain ⟨hd1, to1, th1, tl1, kB⟩ := HKQ.out wB aB; have cB := kB.uc.1; have zB := kB.free 0; have HAB := Lib.hid aB; have HKB := Lib.hid kB; clear aB kB))
  all_goals
    have HAC := Lib.hid (HKB.out.set 0 (.int .i64 n) (cs' := UC n hd1 to1 th1 tl1) rfl)
    go_wp2_with (go_at_call 51; refine (overU HAC.out).mono ?_; rintro ee w ⟨rfl, rfl⟩)
    go_ret
    exact ⟨rfl, wB, HAB.out, rfl⟩
theorem overOT_nil (w : World) : Calls Tryz.prog 29 #[.pointer none] w fun e w' => e = .returned (.bool true) ∧ w' = w := by
  go_enter Tryz.func29, Tryz.ntmps29
  go_wp2_with fail
  go_ret
  exact ⟨rfl, rfl⟩
theorem overOT (k : Bq q T (UC nx hd to th tl) w) : Calls Tryz.prog 29 #[.pointer (some ⟨q, 0, none⟩)] w fun e w' => e = .returned (.bool (nx == 0)) ∧ w' = w := by
  have HK := Lib.hid k
  clear k
  go_enter Tryz.func29, Tryz.ntmps29
  go_wp2_with fail
  ((with_reducible refine (overU HK.out).mono ?_); rintro ee w1 ⟨rfl, rfl⟩)
  go_wp2_with fail
  go_ret
  exact ⟨rfl, rfl⟩
theorem stepOT_nil (m : Value) (w : World) : Calls Tryz.prog 28 #[.pointer none, m] w fun e w' => e = .returned (.bool true) ∧ w' = w := by
  go_enter Tryz.func28, Tryz.ntmps28
  go_wp2_with fail
  ((with_reducible refine (overOT_nil _).mono ?_); rintro ee w1 ⟨rfl, rfl⟩)
  go_wp2_with fail
  go_ret
  exact ⟨rfl, rfl⟩
theorem stepOT_over (m : Value) (k : Bq q T (UC 0 hd to th tl) w) : Calls Tryz.prog 28 #[.pointer (some ⟨q, 0, none⟩), m] w fun e w' => e = .returned (.bool true) ∧ w' = w := by
  have HK := Lib.hid k
  clear k
  go_enter Tryz.func28, Tryz.ntmps28
  go_wp2_with fail
  ((with_reducible refine (overOT HK.out).mono ?_); rintro ee w1 ⟨rfl, rfl⟩)
  go_wp2_with fail
  go_ret
  exact ⟨rfl, rfl⟩
set_option maxRecDepth 100000 in
set_option maxHeartbeats 4000000 in
theorem stepOT_1 (k : Bq q 82 (UC 1 hd to th tl) w) (hl : ∀ X, Below w.heap.size w X → Calls Tryz.prog 67 #[.pointer (some ⟨q, 0, none⟩), .pointer (some ⟨p, 0, none⟩)] X fun e Y => e = .returned (.int .i64 n) ∧ Q Y) (hk : ∀ Y, Q Y → ∃ hd to th tl, Bq q 82 (UC 1 hd to th tl) Y) :
    Calls Tryz.prog 28 #[.pointer (some ⟨q, 0, none⟩), .pointer (some ⟨p, 0, none⟩)] w fun e w' => e = .returned (.bool (n == 0)) ∧ ∃ Y, Q Y ∧ w' = Y.setCell ⟨q, 0, none⟩ (.int .i64 n) := by
  have HK := Lib.hid k
  have HL := Lib.hid hl
  have HKQ := Lib.hid hk
  have c0 := k.uc.1
  have hi := iOT_1
  clear k hl hk
  go_enter Tryz.func28, Tryz.ntmps28
  go_wp2_with (go_at_call 29; refine (overOT HK.out).mono ?_; rintro ee w ⟨rfl, rfl⟩)
  go_region_with (first
    | (go_at_call 52; refine (linesOT _).mono ?_; rintro ee wA ⟨rfl, hA⟩; have HA := Lib.hid (show Below w.heap.size w wA from ((Below.refl _ w).drew).trans hA); have cA := (HK.out.below HA.out).uc.1; clear hA)
    | (go_at_call 67; refine (HL.out wA HA.out).mono ?_; rintro ee wB ⟨rfl, aB⟩; obtain ⟨hd1, to1, th1, tl1, kB⟩ := HKQ.out wB aB; have cB := kB.uc.1; have zB := kB.free 0; have HAB := Lib.hid aB; have HKB := Lib.hid kB; clear aB kB))
  all_goals
    have HAC := Lib.hid (HKB.out.set 0 (.int .i64 n) (cs' := UC n hd1 to1 th1 tl1) rfl)
    go_wp2_with (go_at_call 51; refine (overU HAC.out).mono ?_; rintro ee w ⟨rfl, rfl⟩)
    go_ret
    exact ⟨rfl, wB, HAB.out, rfl⟩
set_option maxRecDepth 100000 in
set_option maxHeartbeats 4000000 in
theorem stepOT_2 (k : Bq q 82 (UC 2 hd to th tl) w) (hl : ∀ X, Below w.heap.size w X → Calls Tryz.prog 66 #[.pointer (some ⟨q, 0, none⟩), .pointer (some ⟨p, 0, none⟩)] X fun e Y => e = .returned (.int .i64 n) ∧ Q Y) (hk : ∀ Y, Q Y → ∃ hd to th tl, Bq q 82 (UC 2 hd to th tl) Y) :
    Calls Tryz.prog 28 #[.pointer (some ⟨q, 0, none⟩), .pointer (some ⟨p, 0, none⟩)] w fun e w' => e = .returned (.bool (n == 0)) ∧ ∃ Y, Q Y ∧ w' = Y.setCell ⟨q, 0, none⟩ (.int .i64 n) := by
  have HK := Lib.hid k
  have HL := Lib.hid hl
  have HKQ := Lib.hid hk
  have c0 := k.uc.1
  have hm := mOT_2 q
  have hi := iOT_2
  clear k hl hk
  go_enter Tryz.func28, Tryz.ntmps28
  go_wp2_with (go_at_call 29; refine (overOT HK.out).mono ?_; rintro ee w ⟨rfl, rfl⟩)
  go_region_with (first
    | (go_at_call 52; refine (linesOT _).mono ?_; rintro ee wA ⟨rfl, hA⟩; have HA := Lib.hid (show Below w.heap.size w wA from ((Below.refl _ w).drew).trans hA); have cA := (HK.out.below HA.out).uc.1; clear hA)
    | (go_at_call 66; refine (HL.out wA HA.out).mono ?_; rintro ee wB ⟨rfl, aB⟩; obtain ⟨hd1, to1, th1, tl1, kB⟩ := HKQ.out wB aB; have cB := kB.uc.1; have zB := kB.free 0; have HAB := Lib.hid aB; have HKB := Lib.hid kB; clear aB kB))
  all_goals
    have HAC := Lib.hid (HKB.out.set 0 (.int .i64 n) (cs' := UC n hd1 to1 th1 tl1) rfl)
    go_wp2_with (go_at_call 51; refine (overU HAC.out).mono ?_; rintro ee w ⟨rfl, rfl⟩)
    go_ret
    exact ⟨rfl, wB, HAB.out, rfl⟩
set_option maxRecDepth 100000 in
set_option maxHeartbeats 4000000 in
theorem stepOT_3 (k : Bq q 82 (UC 3 hd to th tl) w) (hl : ∀ X, Below w.heap.size w X → Calls Tryz.prog 68 #[.pointer (some ⟨q, 0, none⟩), .pointer (some ⟨p, 0, none⟩)] X fun e Y => e = .returned (.int .i64 n) ∧ Q Y) (hk : ∀ Y, Q Y → ∃ hd to th tl, Bq q 82 (UC 3 hd to th tl) Y) :
    Calls Tryz.prog 28 #[.pointer (some ⟨q, 0, none⟩), .pointer (some ⟨p, 0, none⟩)] w fun e w' => e = .returned (.bool (n == 0)) ∧ ∃ Y, Q Y ∧ w' = Y.setCell ⟨q, 0, none⟩ (.int .i64 n) := by
  have HK := Lib.hid k
  have HL := Lib.hid hl
  have HKQ := Lib.hid hk
  have c0 := k.uc.1
  have hi := iOT_3
  clear k hl hk
  go_enter Tryz.func28, Tryz.ntmps28
  go_wp2_with (go_at_call 29; refine (overOT HK.out).mono ?_; rintro ee w ⟨rfl, rfl⟩)
  go_region_with (first
    | (go_at_call 52; refine (linesOT _).mono ?_; rintro ee wA ⟨rfl, hA⟩; have HA := Lib.hid (show Below w.heap.size w wA from ((Below.refl _ w).drew).trans hA); have cA := (HK.out.below HA.out).uc.1; clear hA)
    | (go_at_call 68; refine (HL.out wA HA.out).mono ?_; rintro ee wB ⟨rfl, aB⟩; obtain ⟨hd1, to1, th1, tl1, kB⟩ := HKQ.out wB aB; have cB := kB.uc.1; have zB := kB.free 0; have HAB := Lib.hid aB; have HKB := Lib.hid kB; clear aB kB))
  all_goals
    have HAC := Lib.hid (HKB.out.set 0 (.int .i64 n) (cs' := UC n hd1 to1 th1 tl1) rfl)
    go_wp2_with (go_at_call 51; refine (overU HAC.out).mono ?_; rintro ee w ⟨rfl, rfl⟩)
    go_ret
    exact ⟨rfl, wB, HAB.out, rfl⟩
set_option maxRecDepth 100000 in
set_option maxHeartbeats 4000000 in
theorem stepOT_4 (k : Bq q 82 (UC 4 hd to th tl) w) (hl : ∀ X, Below w.heap.size w X → Calls Tryz.prog 69 #[.pointer (some ⟨q, 0, none⟩), .pointer (some ⟨p, 0, none⟩)] X fun e Y => e = .returned (.int .i64 n) ∧ Q Y) (hk : ∀ Y, Q Y → ∃ hd to th tl, Bq q 82 (UC 4 hd to th tl) Y) :
    Calls Tryz.prog 28 #[.pointer (some ⟨q, 0, none⟩), .pointer (some ⟨p, 0, none⟩)] w fun e w' => e = .returned (.bool (n == 0)) ∧ ∃ Y, Q Y ∧ w' = Y.setCell ⟨q, 0, none⟩ (.int .i64 n) := by
  have HK := Lib.hid k
  have HL := Lib.hid hl
  have HKQ := Lib.hid hk
  have c0 := k.uc.1
  have hi := iOT_4
  clear k hl hk
  go_enter Tryz.func28, Tryz.ntmps28
  go_wp2_with (go_at_call 29; refine (overOT HK.out).mono ?_; rintro ee w ⟨rfl, rfl⟩)
  go_region_with (first
    | (go_at_call 52; refine (linesOT _).mono ?_; rintro ee wA ⟨rfl, hA⟩; have HA := Lib.hid (show Below w.heap.size w wA from ((Below.refl _ w).drew).trans hA); have cA := (HK.out.below HA.out).uc.1; clear hA)
    | (go_at_call 69; refine (HL.out wA HA.out).mono ?_; rintro ee wB ⟨rfl, aB⟩; obtain ⟨hd1, to1, th1, tl1, kB⟩ := HKQ.out wB aB; have cB := kB.uc.1; have zB := kB.free 0; have HAB := Lib.hid aB; have HKB := Lib.hid kB; clear aB kB))
  all_goals
    have HAC := Lib.hid (HKB.out.set 0 (.int .i64 n) (cs' := UC n hd1 to1 th1 tl1) rfl)
    go_wp2_with (go_at_call 51; refine (overU HAC.out).mono ?_; rintro ee w ⟨rfl, rfl⟩)
    go_ret
    exact ⟨rfl, wB, HAB.out, rfl⟩
set_option maxRecDepth 100000 in
set_option maxHeartbeats 4000000 in
theorem stepOT_5 (k : Bq q 82 (UC 5 hd to th tl) w) (hl : ∀ X, Below w.heap.size w X → Calls Tryz.prog 70 #[.pointer (some ⟨q, 0, none⟩), .pointer (some ⟨p, 0, none⟩)] X fun e Y => e = .returned (.int .i64 n) ∧ Q Y) (hk : ∀ Y, Q Y → ∃ hd to th tl, Bq q 82 (UC 5 hd to th tl) Y) :
    Calls Tryz.prog 28 #[.pointer (some ⟨q, 0, none⟩), .pointer (some ⟨p, 0, none⟩)] w fun e w' => e = .returned (.bool (n == 0)) ∧ ∃ Y, Q Y ∧ w' = Y.setCell ⟨q, 0, none⟩ (.int .i64 n) := by
  have HK := Lib.hid k
  have HL := Lib.hid hl
  have HKQ := Lib.hid hk
  have c0 := k.uc.1
  have hi := iOT_5
  clear k hl hk
  go_enter Tryz.func28, Tryz.ntmps28
  go_wp2_with (go_at_call 29; refine (overOT HK.out).mono ?_; rintro ee w ⟨rfl, rfl⟩)
  go_region_with (first
    | (go_at_call 52; refine (linesOT _).mono ?_; rintro ee wA ⟨rfl, hA⟩; have HA := Lib.hid (show Below w.heap.size w wA from ((Below.refl _ w).drew).trans hA); have cA := (HK.out.below HA.out).uc.1; clear hA)
    | (go_at_call 70; refine (HL.out wA HA.out).mono ?_; rintro ee wB ⟨rfl, aB⟩; obtain ⟨hd1, to1, th1, tl1, kB⟩ := HKQ.out wB aB; have cB := kB.uc.1; have zB := kB.free 0; have HAB := Lib.hid aB; have HKB := Lib.hid kB; clear aB kB))
  all_goals
    have HAC := Lib.hid (HKB.out.set 0 (.int .i64 n) (cs' := UC n hd1 to1 th1 tl1) rfl)
    go_wp2_with (go_at_call 51; refine (overU HAC.out).mono ?_; rintro ee w ⟨rfl, rfl⟩)
    go_ret
    exact ⟨rfl, wB, HAB.out, rfl⟩
set_option maxRecDepth 100000 in
set_option maxHeartbeats 4000000 in
theorem stepOT_6 (k : Bq q 82 (UC 6 hd to th tl) w) (hl : ∀ X, Below w.heap.size w X → Calls Tryz.prog 71 #[.pointer (some ⟨q, 0, none⟩), .pointer (some ⟨p, 0, none⟩)] X fun e Y => e = .returned (.int .i64 n) ∧ Q Y) (hk : ∀ Y, Q Y → ∃ hd to th tl, Bq q 82 (UC 6 hd to th tl) Y) :
    Calls Tryz.prog 28 #[.pointer (some ⟨q, 0, none⟩), .pointer (some ⟨p, 0, none⟩)] w fun e w' => e = .returned (.bool (n == 0)) ∧ ∃ Y, Q Y ∧ w' = Y.setCell ⟨q, 0, none⟩ (.int .i64 n) := by
  have HK := Lib.hid k
  have HL := Lib.hid hl
  have HKQ := Lib.hid hk
  have c0 := k.uc.1
  have hi := iOT_6
  clear k hl hk
  go_enter Tryz.func28, Tryz.ntmps28
  go_wp2_with (go_at_call 29; refine (overOT HK.out).mono ?_; rintro ee w ⟨rfl, rfl⟩)
  go_region_with (first
    | (go_at_call 52; refine (linesOT _).mono ?_; rintro ee wA ⟨rfl, hA⟩; have HA := Lib.hid (show Below w.heap.size w wA from ((Below.refl _ w).drew).trans hA); have cA := (HK.out.below HA.out).uc.1; clear hA)
    | (go_at_call 71; refine (HL.out wA HA.out).mono ?_; rintro ee wB ⟨rfl, aB⟩; obtain ⟨hd1, to1, th1, tl1, kB⟩ := HKQ.out wB aB; have cB := kB.uc.1; have zB := kB.free 0; have HAB := Lib.hid aB; have HKB := Lib.hid kB; clear aB kB))
  all_goals
    have HAC := Lib.hid (HKB.out.set 0 (.int .i64 n) (cs' := UC n hd1 to1 th1 tl1) rfl)
    go_wp2_with (go_at_call 51; refine (overU HAC.out).mono ?_; rintro ee w ⟨rfl, rfl⟩)
    go_ret
    exact ⟨rfl, wB, HAB.out, rfl⟩
set_option maxRecDepth 100000 in
set_option maxHeartbeats 4000000 in
theorem stepOT_7 (k : Bq q 82 (UC 7 hd to th tl) w) (hl : ∀ X, Below w.heap.size w X → Calls Tryz.prog 72 #[.pointer (some ⟨q, 0, none⟩), .pointer (some ⟨p, 0, none⟩)] X fun e Y => e = .returned (.int .i64 n) ∧ Q Y) (hk : ∀ Y, Q Y → ∃ hd to th tl, Bq q 82 (UC 7 hd to th tl) Y) :
    Calls Tryz.prog 28 #[.pointer (some ⟨q, 0, none⟩), .pointer (some ⟨p, 0, none⟩)] w fun e w' => e = .returned (.bool (n == 0)) ∧ ∃ Y, Q Y ∧ w' = Y.setCell ⟨q, 0, none⟩ (.int .i64 n) := by
  have HK := Lib.hid k
  have HL := Lib.hid hl
  have HKQ := Lib.hid hk
  have c0 := k.uc.1
  have hi := iOT_7
  clear k hl hk
  go_enter Tryz.func28, Tryz.ntmps28
  go_wp2_with (go_at_call 29; refine (overOT HK.out).mono ?_; rintro ee w ⟨rfl, rfl⟩)
  go_region_with (first
    | (go_at_call 52; refine (linesOT _).mono ?_; rintro ee wA ⟨rfl, hA⟩; have HA := Lib.hid (show Below w.heap.size w wA from ((Below.refl _ w).drew).trans hA); have cA := (HK.out.below HA.out).uc.1; clear hA)
    | (go_at_call 72; refine (HL.out wA HA.out).mono ?_; rintro ee wB ⟨rfl, aB⟩; obtain ⟨hd1, to1, th1, tl1, kB⟩ := HKQ.out wB aB; have cB := kB.uc.1; have zB := kB.free 0; have HAB := Lib.hid aB; have HKB := Lib.hid kB; clear aB kB))
  all_goals
    have HAC := Lib.hid (HKB.out.set 0 (.int .i64 n) (cs' := UC n hd1 to1 th1 tl1) rfl)
    go_wp2_with (go_at_call 51; refine (overU HAC.out).mono ?_; rintro ee w ⟨rfl, rfl⟩)
    go_ret
    exact ⟨rfl, wB, HAB.out, rfl⟩
theorem newTake_raw (w : World) : Calls Tryz.prog 10 #[] w fun e w' => ∃ q, e = .returned (.pointer (some ⟨q, 0, none⟩)) ∧ w.heap.size ≤ q ∧ Bq q 82 (UC 1 0 (-1) 3 (TTl 0 0 false 0 0 0 (.slice none 0 0))) w' ∧ Below w.heap.size w w' := by
  go_enter Tryz.func10, Tryz.ntmps10
  go_wp2
  go_ret
  exact ⟨w.heap.size, rfl, Nat.le_refl _, Bq.new w (UC 1 0 (-1) 3 (TTl 0 0 false 0 0 0 (.slice none 0 0))) _, (Below.refl _ _).alloc (Nat.le_refl _) _⟩
end
end Go.Proofs.YtjpanofkikfeoaaGreatDoor
namespace Go.Proofs.YtjpanofkikfeoaaGreatDoor
open Go.RowKit Go.Maps

/-- Which slots were seen. -/
def seenL (l : List EP) : List Value := (List.range 256).map fun (j : Nat) => .bool (l.any fun e => e.s == (j : Int))
theorem seenL_nil : seenL [] = List.replicate 256 (.bool false) := by
  unfold seenL
  rw [show (fun (j : Nat) => Value.bool (([] : List EP).any fun e => e.s == (j : Int))) = fun _ => Value.bool false from rfl, List.map_const', List.length_range]
theorem seenL_at (l : List EP) {j : Nat} (h : j < 256) : (seenL l)[j]? = some (.bool (l.any fun e => e.s == (j : Int))) := by
  unfold seenL
  simp [h]
theorem seenL_set (l : List EP) (e : EP) {j : Nat} (he : e.s = (j : Int)) : (seenL l).set j (.bool true) = seenL (l ++ [e]) := by
  apply List.ext_getElem?
  intro i
  rw [List.getElem?_set]
  have hl : (seenL l).length = 256 := by simp [seenL]
  by_cases hij : j = i
  · subst hij
    rw [if_pos rfl, hl]
    by_cases h : j < 256
    · rw [if_pos h, seenL_at _ h]
      simp [he]
    · rw [if_neg h]
      unfold seenL
      simp [h]
  · rw [if_neg hij]
    by_cases h : i < 256
    · rw [seenL_at _ h, seenL_at _ h]
      have : ((e.s == (i : Int)) : Bool) = false := by rw [he]; simp; omega
      simp [this]
    · unfold seenL
      simp [h]
theorem zero256 : Tryz.zeroCells100 = (List.replicate 256 (Value.bool false)).toArray := by kernel_rfl
/-- What stands while the list is looked at. -/
structure MayS (w : World) (z : Nat) (l : List EP) (wr : World) : Prop where
  low : Below w.heap.size w wr
  bz : Bq z 100 (seenL l) wr
  zb : w.heap.size ≤ z
  ok : ∀ e ∈ l, 0 ≤ e.s ∧ e.s < 256 ∧ e.k = false
  nd : (l.map EP.s).Nodup
section
variable {w wr X : World} {z : Nat} {l g : List EP} {e : EP}
theorem MayS.below (h : MayS w z l wr) (hb : Below wr.heap.size wr X) : MayS w z l X := ⟨h.low.trans (hb.mono h.low.size), h.bz.below hb, h.zb, h.ok, h.nd⟩
theorem any_mem {j : Int} : (l.any fun e => e.s == j) = true ↔ j ∈ l.map EP.s := by
  rw [List.any_eq_true, List.mem_map]
  constructor
  · rintro ⟨e, he, h⟩
    exact ⟨e, he, by simpa using h⟩
  · rintro ⟨e, he, h⟩
    exact ⟨e, he, by simpa using h⟩
theorem MayS.push (h : MayS w z l wr) {j : Nat} (he : e.s = (j : Int)) (h1 : j < 256) (hk : e.k = false) (hs : (l.any fun e => e.s == (j : Int)) = false) : MayS w z (l ++ [e]) (wr.setCell ⟨z, j, none⟩ (.bool true)) := by
  refine ⟨h.low.setCell (p := ⟨z, j, none⟩) h.zb _, h.bz.set j _ (seenL_set l e he).symm, h.zb, fun x hx => ?_, ?_⟩
  · simp only [List.mem_append, List.mem_singleton] at hx
    rcases hx with hx | rfl
    · exact h.ok x hx
    · exact ⟨by omega, by omega, hk⟩
  · rw [List.map_append, List.nodup_append]
    refine ⟨h.nd, by simp, fun a ha b hb => ?_⟩
    simp only [List.map_cons, List.map_nil, List.mem_singleton] at hb
    rintro rfl
    subst hb
    have : (l.any fun e => e.s == (j : Int)) = true := any_mem.2 (he ▸ ha)
    rw [this] at hs
    cases hs
theorem may_slot {i : Nat} (hi : i < g.length) (h : mayE g) : 0 ≤ (g.getD i EP.zero).s ∧ (g.getD i EP.zero).s < 256 ∧ (g.getD i EP.zero).k = false := by
  refine h.2.1 _ ?_
  rw [List.getD_eq_getElem?_getD, List.getElem?_eq_getElem hi]
  exact List.getElem_mem hi
theorem take_next {i : Nat} (hi : i < g.length) : g.take (i + 1) = g.take i ++ [g.getD i EP.zero] := by
  rw [List.getD_eq_getElem?_getD, List.getElem?_eq_getElem hi, List.take_succ_eq_append_getElem hi]
  rfl
theorem may_twice {i : Nat} (hi : i < g.length) (h : mayE g) : ((g.take i).any fun e => e.s == (g.getD i EP.zero).s) = false := by
  rw [← Bool.not_eq_true]
  intro k
  have k := any_mem.1 k
  have h3 := h.2.2
  rw [← List.take_append_drop (i + 1) g, List.map_append, List.nodup_append, take_next hi, List.map_append, List.nodup_append] at h3
  exact h3.1.2.2 _ k _ (by simp) rfl
set_option maxRecDepth 100000 in
set_option maxHeartbeats 16000000 in
theorem mayBe_any {A : Option Addr} {n c : Nat} (h : SeeE w (.slice A n c) g) (hl : n < 100000) : Calls Tryz.prog 20 #[.slice A n c] w fun e w' => e = .returned (.bool (decide (mayE g))) ∧ Below w.heap.size w w' := by
  have hn : n = g.length := h.len
  have HN := Lib.hid hn
  have HS := Lib.hid h
  have h0 := Lib.hid (show MayS w w.heap.size [] (w.alloc (.cells Tryz.zeroCells100 100)) from ⟨(Below.refl _ _).alloc (Nat.le_refl _) _, by rw [seenL_nil, zero256]; exact Bq.new w (List.replicate 256 (.bool false)) _, Nat.le_refl _, by simp, by simp⟩)
  clear h hn
  go_enter Tryz.func20, Tryz.ntmps20
  go_upto_region 2 with (fail)
  revert h0
  generalize w.alloc (.cells Tryz.zeroCells100 100) = w1
  have hz : ∃ z, z = w.heap.size := ⟨_, rfl⟩
  obtain ⟨z, hz⟩ := hz
  rw [← hz]
  intro h0
  clear hz
  go_wp2_with fail
  go_loopw [9] (fun j wr => ∃ i : Nat, i ≤ n ∧ j = .int .i64 (i : Int) ∧ Hid (MayS w z (g.take i) wr)) (fun j _ => n - (intOf j).toNat)
  case atStart => exact ⟨0, Nat.zero_le _, rfl, Lib.hid h0.out⟩
  case round =>
    clear h0
    obtain ⟨i, hi, rfl, HM⟩ := hrel
    rename World => wr
    have hge : (0 : Int) ≤ (i : Int) := by omega
    by_cases hlt : i < n
    · have hlt' : (i : Int) < (n : Int) := by omega
      have hig : i < g.length := by have := HN.out; omega
      obtain ⟨hc0, hc1, g1, o1, rfl⟩ := HS.out.addr (by omega)
      obtain ⟨x0, x1, x2, x3, x4, x5⟩ := (HS.out.below HM.out.low).six hig
      have HT := Lib.hid (take_next hig)
      have HP := Lib.hid (may_slot hig)
      have HW := Lib.hid (may_twice hig)
      generalize hev : g.getD i EP.zero = ev at *
      obtain ⟨es, eg, ek, eb, ec, ed⟩ := ev
      clear hev
      dsimp only at x0 x1 x2 x3 x4 x5
      have hbX : Below wr.heap.size wr (wr.alloc (.cells #[.int .i64 es, .int .u32 eg, .bool ek, .int .u64 eb, .int .u64 ec, .int .u64 ed] 62)) := (Below.refl _ _).alloc (Nat.le_refl _) _
      have HX := Lib.hid (show Bq wr.heap.size 62 (EP.cells ⟨es, eg, ek, eb, ec, ed⟩) (wr.alloc (.cells #[.int .i64 es, .int .u32 eg, .bool ek, .int .u64 eb, .int .u64 ec, .int .u64 ed] 62)) ∧ MayS w z (g.take i) (wr.alloc (.cells #[.int .i64 es, .int .u32 eg, .bool ek, .int .u64 eb, .int .u64 ec, .int .u64 ed] 62)) from ⟨Bq.new wr (EP.cells ⟨es, eg, ek, eb, ec, ed⟩) 62, HM.out.below hbX⟩)
      clear hbX HM
      go_upto_region 5 with (fail)
      clear x0 x1 x2 x3 x4 x5
      revert HX
      generalize (wr.alloc (.cells #[.int .i64 es, .int .u32 eg, .bool ek, .int .u64 eb, .int .u64 ec, .int .u64 ed] 62)) = X9
      generalize wr.heap.size = eb9
      intro HX
      obtain ⟨y0, y1, y2⟩ : X9.cell? ⟨eb9, 0, none⟩ = some (.int .i64 es) ∧ X9.cell? ⟨eb9, 1, none⟩ = some (.int .u32 eg) ∧ X9.cell? ⟨eb9, 2, none⟩ = some (.bool ek) := ⟨HX.out.1.cell 0, HX.out.1.cell 1, HX.out.1.cell 2⟩
      clear y1
      by_cases hk : ek = true
      · subst hk
        go_wp2_with fail
        go_ret
        have hd : decide (mayE g) = false := decide_eq_false fun hm => absurd (show true = false from (HP.out hm).2.2) (by simp)
        exact ⟨by rw [hd]; rfl, HX.out.2.low⟩
      have hk0 : ek = false := by simpa using hk
      subst hk0
      clear hk
      by_cases hs0 : es < 0
      · go_wp2_with fail
        go_ret
        have hd : decide (mayE g) = false := decide_eq_false fun hm => by have h : 0 ≤ es := (HP.out hm).1; omega
        exact ⟨by rw [hd]; rfl, HX.out.2.low⟩
      by_cases hs1 : 256 ≤ es
      · go_wp2_with fail
        go_ret
        have hd : decide (mayE g) = false := decide_eq_false fun hm => by have h : es < 256 := (HP.out hm).2.1; omega
        exact ⟨by rw [hd]; rfl, HX.out.2.low⟩
      obtain ⟨sj, hsj⟩ : ∃ sj : Nat, es = (sj : Int) := ⟨es.toNat, by omega⟩
      subst hsj
      have hsl : sj < 256 := by omega
      have hge2 : (0 : Int) ≤ (sj : Int) := by omega
      have hlt2 : (sj : Int) < 256 := by omega
      have y3 := (HX.out.2.bz.cell sj).trans (seenL_at (g.take i) hsl)
      have z3 := HX.out.2.bz.free sj
      by_cases hsn : ((g.take i).any fun e => e.s == (sj : Int)) = true
      · rw [hsn] at y3
        have HSN := Lib.hid hsn
        clear hsn
        go_wp2_with fail
        go_ret
        have hd : decide (mayE g) = false := decide_eq_false fun hm => by
          have h1 : ((g.take i).any fun e => e.s == (sj : Int)) = false := HW.out hm
          rw [HSN.out] at h1
          cases h1
        exact ⟨by rw [hd]; rfl, HX.out.2.low⟩
      · have hsn0 : ((g.take i).any fun e => e.s == (sj : Int)) = false := by simpa using hsn
        rw [hsn0] at y3
        have HPU := Lib.hid (HX.out.2.push (e := ⟨(sj : Int), eg, false, eb, ec, ed⟩) rfl hsl rfl hsn0)
        clear hsn hsn0
        go_wp2_with fail
        go_roundw
        case rel => exact ⟨i + 1, by omega, by go_num, Lib.hid (by rw [HT.out]; exact HPU.out)⟩
        case measure => simp [intOf]; omega
    · have hin : i = n := by omega
      have hnl : ¬ (i : Int) < (n : Int) := by omega
      have hgt : g.take i = g := List.take_of_length_le (by have := HN.out; omega)
      have HG := Lib.hid hgt
      have hlow := Lib.hid HM.out.low
      by_cases h0 : 0 < n
      · have h0' : (0 : Int) < (n : Int) := by omega
        have hd : decide (mayE g) = true := decide_eq_true ⟨fun e => by have := HN.out; rw [e] at this; simp at this; omega, HG.out ▸ HM.out.ok, HG.out ▸ HM.out.nd⟩
        have HD := Lib.hid hd
        clear hd hgt HM
        go_wp2_with fail
        go_ret
        exact ⟨by rw [HD.out]; rfl, hlow.out⟩
      · have h0' : ¬ (0 : Int) < (n : Int) := by omega
        have hd : decide (mayE g) = false := decide_eq_false fun hm => hm.1 (List.length_eq_zero_iff.1 (by have := HN.out; omega))
        have HD := Lib.hid hd
        clear hd hgt HM
        go_wp2_with fail
        go_ret
        exact ⟨by rw [HD.out]; rfl, hlow.out⟩
end
end Go.Proofs.YtjpanofkikfeoaaGreatDoor
namespace Go.Proofs.YtjpanofkikfeoaaGreatDoor
open Go.RowKit Go.Maps

theorem info_int12 : (Tryz.prog.info? 3).map (fun i => (i.zero, i.size, i.bytes)) = some (some (.int .i64 0), 1, 8) := by kernel_rfl
theorem own_whole {w : World} {n y : Nat} {B size : Nat} {t : TypeId} {xs : List Value} (h : w.ownsRow B t size (.slice (some ⟨y, 0, none⟩) n n) n xs) : Bq y t xs w := by
  obtain ⟨h1, h2⟩ := h
  rcases h2 with ⟨e, _⟩ | ⟨g, cap, cur, e, hb, hg, hc, hm, hs, ht⟩
  · cases e
  · injection e with e1 e2 e3
    injection e1 with e1
    injection e1 with e4
    subst e4 e3
    rw [List.take_of_length_le (by simp; omega)] at ht
    subst ht
    unfold Bq
    simpa using hg
theorem grown_none {w w' : World} (h : w.grownBy w' none) : Below w.heap.size w w' := (Below.refl _ w).grown h (Nat.le_refl _) fun _ e => by cases e
/-- The slots, as far as they were laid. -/
def rowS (g : List EP) (i : Nat) : List Value := (g.take i).map (fun e => .int .i64 e.s) ++ List.replicate (g.length - i) (.int .i64 0)
theorem rowS_0 (g : List EP) : rowS g 0 = List.replicate g.length (.int .i64 0) := by simp [rowS]
theorem rowS_n (g : List EP) : rowS g g.length = g.map (fun e => .int .i64 e.s) := by simp [rowS]
theorem rowS_set {g : List EP} {i : Nat} (h : i < g.length) : (rowS g i).set i (.int .i64 (g.getD i EP.zero).s) = rowS g (i + 1) := by
  have hl : ((g.take i).map (fun e => Value.int .i64 e.s)).length = i := by simp; omega
  unfold rowS
  rw [List.set_append_right _ _ (by omega), hl, Nat.sub_self, take_next h]
  obtain ⟨k, hk⟩ : ∃ k, g.length - i = k + 1 := ⟨g.length - i - 1, by omega⟩
  rw [hk, show g.length - (i + 1) = k by omega]
  simp [List.replicate_succ]
structure NgS (w : World) (q y : Nat) (to : Int) (g : List EP) (n i : Nat) (X : World) : Prop where
  low : Below w.heap.size w X
  k : Bq q 77 (UC 0 0 to 0 (GTl (.slice (some ⟨y, 0, none⟩) n n) 0 0)) X
  r : Bq y 3 (rowS g i) X
  qb : w.heap.size ≤ q
  yb : w.heap.size ≤ y
section
variable {w X Y : World} {q y n i : Nat} {to : Int} {g : List EP}
theorem NgS.below (h : NgS w q y to g n i X) (hb : Below X.heap.size X Y) : NgS w q y to g n i Y := ⟨h.low.trans (hb.mono h.low.size), h.k.below hb, h.r.below hb, h.qb, h.yb⟩
theorem NgS.next (h : NgS w q y to g n i X) (hi : i < g.length) : NgS w q y to g n (i + 1) (X.setCell ⟨y, i, none⟩ (.int .i64 (g.getD i EP.zero).s)) := by
  have hne : y ≠ q := h.r.ne h.k (by decide)
  exact ⟨h.low.setCell (p := ⟨y, i, none⟩) h.yb _, h.k.setO hne.symm i _, h.r.set i _ (rowS_set hi).symm, h.qb, h.yb⟩
set_option maxHeartbeats 4000000 in
theorem newGive_bad {A : Option Addr} {c : Nat} (h : SeeE w (.slice A n c) g) (hl : n < 100000) (hm : ¬ mayE g) : Calls Tryz.prog 6 #[.slice A n c] w fun e w' => ∃ q, e = .returned (.pointer (some ⟨q, 0, none⟩)) ∧ w.heap.size ≤ q ∧ Bq q 77 (UC 0 0 0 0 (GTl (.slice none 0 0) 0 0)) w' ∧ Below w.heap.size w w' := by
  have hmb := mayBe_any h hl
  rw [decide_eq_false hm] at hmb
  have HB := Lib.hid hmb
  clear h hm hmb
  go_enter Tryz.func6, Tryz.ntmps6
  go_wp2_with fail
  ((with_reducible refine HB.out.mono ?_); rintro ee w1 ⟨rfl, hb⟩)
  have HL := Lib.hid hb
  clear hb
  go_wp2_with fail
  go_ret
  exact ⟨w1.heap.size, rfl, HL.out.size, Bq.new w1 (UC 0 0 0 0 (GTl (.slice none 0 0) 0 0)) _, HL.out.alloc HL.out.size _⟩
set_option maxRecDepth 100000 in
set_option maxHeartbeats 16000000 in
theorem newGive_good {A : Option Addr} {c l1 : Nat} (h : SeeE w (.slice A n c) g) (hn1 : n = l1 + 1) (hl : n < 100000) (hm : mayE g) : Calls Tryz.prog 6 #[.slice A n c] w fun e w' => ∃ q y, e = .returned (.pointer (some ⟨q, 0, none⟩)) ∧ w.heap.size ≤ q ∧ w.heap.size ≤ y ∧ Bq q 77 (UC (if l1 = 0 then 1 else 3) 0 (slA g 0) 0 (GTl (.slice (some ⟨y, 0, none⟩) n n) 0 0)) w' ∧ Bq y 3 (g.map (fun e => .int .i64 e.s)) w' ∧ Below w.heap.size w w' := by
  have hmb := mayBe_any h hl
  rw [decide_eq_true hm] at hmb
  have HB := Lib.hid hmb
  have hn : n = g.length := h.len
  have HN := Lib.hid (And.intro hn hn1)
  have HS := Lib.hid h
  obtain ⟨hc0, hc1, g1, o1, rfl⟩ := h.addr (by omega)
  obtain ⟨i1, hi1, hy0, hy1, hy2⟩ := info_parts info_int12
  have hn0' : (0 : Int) < (n : Int) := by omega
  have hn00 : 0 < n := by omega
  clear h hm hmb hn hn1
  go_enter Tryz.func6, Tryz.ntmps6
  go_wp2_with fail
  ((with_reducible refine HB.out.mono ?_); rintro ee w1 ⟨rfl, hb⟩)
  have HL := Lib.hid hb
  clear hb
  go_wp2_with fail
  have hg0 : 0 < g.length := by have := HN.out; omega
  have HSD := Lib.hid ((HS.out.below HL.out).below (Below.refl _ w1).drew)
  have x0 : w1.drew.cell? ⟨g1, o1, none⟩ = some (.int .i64 (slA g 0)) := (HSD.out.six hg0).1
  obtain ⟨w2, hmk, ho, hg⟩ := run_make_full (P := Tryz.prog) w1.drew 0 75 3 i1 _ 1 Tryz.underlying75 hi1 hy0 hy1 .i64 .i64 n (by rw [hy2]; omega) (by unfold maxLen; omega) (Nat.zero_le _)
  have x1 : w2.cell? ⟨g1, o1, none⟩ = some (.int .i64 (slA g 0)) := ((HSD.out.below (grown_none hg)).six hg0).1
  have HO := Lib.hid (And.intro (own_whole ho) (grown_none hg))
  clear ho hg
  go_region_with (fail)
  all_goals
    clear x0 x1 hmk
    have HX := Lib.hid (show NgS w w2.heap.size w1.heap.size (slA g 0) g n 0 (w2.alloc (.cells #[.int .i64 0, .int .u64 0, .int .i64 (slA g 0), .int .i64 0, .slice (some ⟨w1.heap.size, 0, none⟩) n n, .int .i64 0, .int .i64 0] 77)) from by
      obtain ⟨hr, hb2⟩ := HO.out
      have hbd : Below w1.heap.size w1 w2 := ((Below.refl _ w1).drew).trans hb2
      have hb3 : Below w2.heap.size w2 (w2.alloc (.cells #[.int .i64 0, .int .u64 0, .int .i64 (slA g 0), .int .i64 0, .slice (some ⟨w1.heap.size, 0, none⟩) n n, .int .i64 0, .int .i64 0] 77)) := (Below.refl _ _).alloc (Nat.le_refl _) _
      have h12 := HL.out.trans (hbd.mono HL.out.size)
      refine ⟨h12.trans (hb3.mono h12.size), Bq.new w2 (UC 0 0 (slA g 0) 0 (GTl (.slice (some ⟨w1.heap.size, 0, none⟩) n n) 0 0)) _, ?_, h12.size, HL.out.size⟩
      rw [rowS_0, ← HN.out.1]
      refine Bq.below (show Bq _ _ _ w2 from ?_) hb3
      have hm := toList_madeCells_one (.int .i64 0) n
      rw [Nat.mul_one] at hr
      have e1 : (madeCells (Value.int .i64 0).cells n).toList = List.replicate n (.int .i64 0) := hm
      rw [e1] at hr
      exact hr)
    revert HX
    generalize (w2.alloc (.cells #[.int .i64 0, .int .u64 0, .int .i64 (slA g 0), .int .i64 0, .slice (some ⟨w1.heap.size, 0, none⟩) n n, .int .i64 0, .int .i64 0] 77)) = w3
    generalize hy9 : w1.heap.size = y9
    generalize w2.heap.size = q9
    intro HX
    clear HO hy9
    go_wp2_with fail
    go_loopw [24] (fun j wr => ∃ i : Nat, i ≤ n ∧ j = .int .i64 (i : Int) ∧ Hid (NgS w q9 y9 (slA g 0) g n i wr)) (fun j _ => n - (intOf j).toNat)
    case atStart => exact ⟨0, Nat.zero_le _, rfl, Lib.hid HX.out⟩
    case round =>
      clear HX
      obtain ⟨i, hi, rfl, HX⟩ := hrel
      rename World => wr
      have hge : (0 : Int) ≤ (i : Int) := by omega
      by_cases hlt : i < n
      · have hlt' : (i : Int) < (n : Int) := by omega
        have hig : i < g.length := by have := HN.out; omega
        obtain ⟨x0, x1, x2, x3, x4, x5⟩ := (HS.out.below HX.out.low).six hig
        generalize hev : g.getD i EP.zero = ev at *
        obtain ⟨es, eg, ek, eb, ec, ed⟩ := ev
        dsimp only at x0 x1 x2 x3 x4 x5
        have HEV := Lib.hid hev
        clear hev
        have hbX : Below wr.heap.size wr (wr.alloc (.cells #[.int .i64 es, .int .u32 eg, .bool ek, .int .u64 eb, .int .u64 ec, .int .u64 ed] 62)) := (Below.refl _ _).alloc (Nat.le_refl _) _
        have HX1 := Lib.hid (show Bq wr.heap.size 62 (EP.cells ⟨es, eg, ek, eb, ec, ed⟩) (wr.alloc (.cells #[.int .i64 es, .int .u32 eg, .bool ek, .int .u64 eb, .int .u64 ec, .int .u64 ed] 62)) ∧ NgS w q9 y9 (slA g 0) g n i (wr.alloc (.cells #[.int .i64 es, .int .u32 eg, .bool ek, .int .u64 eb, .int .u64 ec, .int .u64 ed] 62)) from ⟨Bq.new wr (EP.cells ⟨es, eg, ek, eb, ec, ed⟩) 62, HX.out.below hbX⟩)
        clear hbX HX
        go_upto_region 7 with (fail)
        clear x0 x1 x2 x3 x4 x5
        revert HX1
        generalize (wr.alloc (.cells #[.int .i64 es, .int .u32 eg, .bool ek, .int .u64 eb, .int .u64 ec, .int .u64 ed] 62)) = X9
        generalize wr.heap.size = eb9
        intro HX1
        have HX2 := Lib.hid (HX1.out.2.below (Below.refl _ X9).drew)
        have y0 : X9.drew.cell? ⟨eb9, 0, none⟩ = some (.int .i64 es) := (HX1.out.1.below (Below.refl _ X9).drew).cell 0
        have y1 : X9.drew.cell? ⟨q9, 4, none⟩ = some (.slice (some ⟨y9, 0, none⟩) n n) := HX2.out.k.gc.1
        have y2 : X9.drew.cell? ⟨y9, i, none⟩ = some (.int .i64 0) := (HX2.out.r.cell i).trans (by
          unfold rowS
          rw [List.getElem?_append_right (by simp; omega), List.length_map, List.length_take, Nat.min_eq_left (by omega), Nat.sub_self, List.getElem?_replicate, if_pos (by omega)])
        have z2 := HX2.out.r.free i
        have HX3 := Lib.hid (show NgS w q9 y9 (slA g 0) g n (i + 1) (X9.drew.setCell ⟨y9, i, none⟩ (.int .i64 es)) from by
          have := HX2.out.next hig
          rw [HEV.out] at this
          exact this)
        go_region_with (fail)
        all_goals
          clear y0 y1 y2 z2
          go_wp2_with fail
          go_roundw
          case rel => exact ⟨i + 1, by omega, by go_num, Lib.hid HX3.out⟩
          case measure => simp [intOf]; omega
      · have hin : i = n := by omega
        have hnl : ¬ (i : Int) < (n : Int) := by omega
        have hHN : (n : Int) = (l1 : Int) + 1 := by have := HN.out.2; omega
        have hl1 : l1 < 100000 := by have := HN.out.2; omega
        have HHN := Lib.hid (And.intro hHN hl1)
        clear hHN hl1
        go_wp2_with fail
        by_cases h1 : l1 = 0
        · have h2 : ¬ (0 : Int) < (l1 : Int) := by omega
          ((with_reducible refine (onwardG_end HX.out.k HHN.out.1 HHN.out.2 h2).mono ?_); rintro ee w4 ⟨rfl, hb4⟩)
          have HX4 := Lib.hid (HX.out.below hb4)
          have c0 := HX4.out.k.uc.1
          have z0 := HX4.out.k.free 0
          clear hb4 HX
          go_wp2_with fail
          go_ret
          have hne : y9 ≠ q9 := HX4.out.r.ne HX4.out.k (by decide)
          refine ⟨q9, rfl, HX4.out.qb, y9, HX4.out.yb, HX4.out.k.set 0 (.int .i64 1) (by first | rfl | (rw [if_pos h1]; rfl)), ?_, HX4.out.low.setCell (p := ⟨q9, 0, none⟩) HX4.out.qb _⟩
          have hr := HX4.out.r
          rw [hin, HN.out.1, rowS_n] at hr
          exact hr.setO hne _ _
        · have h2 : (0 : Int) < (l1 : Int) := by omega
          ((with_reducible refine (onwardG_on HX.out.k HHN.out.1 HHN.out.2 h2).mono ?_); rintro ee w4 ⟨rfl, hb4⟩)
          have HX4 := Lib.hid (HX.out.below hb4)
          have c0 := HX4.out.k.uc.1
          have z0 := HX4.out.k.free 0
          clear hb4 HX
          go_wp2_with fail
          go_ret
          have hne : y9 ≠ q9 := HX4.out.r.ne HX4.out.k (by decide)
          refine ⟨q9, rfl, HX4.out.qb, y9, HX4.out.yb, HX4.out.k.set 0 (.int .i64 3) (by first | rfl | (rw [if_neg h1]; rfl)), ?_, HX4.out.low.setCell (p := ⟨q9, 0, none⟩) HX4.out.qb _⟩
          have hr := HX4.out.r
          rw [hin, HN.out.1, rowS_n] at hr
          exact hr.setO hne _ _
end
end Go.Proofs.YtjpanofkikfeoaaGreatDoor
namespace Go.Proofs.YtjpanofkikfeoaaGreatDoor
open Go.RowKit Go.Maps

section
variable {P : Program}
/-- A copy of a whole row into one of the call's own that is as long. -/
theorem wpList_copy_whole {w : World} {ops : Array Oper} {rest : List Oper} {o : Oper} {a : Act} {Q : Exit → Act → World → Prop} (hgd : o.guard = none) (d s : Operand) (dT sT : TypeId)
    (ho : o.op = .call { callee := .builtin .copy, args := #[d, s], argTypes := #[dT, sT] }) (elem : TypeId) (hu : P.underlying dT = some (.slice elem)) (i : TypeInfo) (size : Nat) (hi : P.info? elem = some i) (hsz : i.size = size)
    (g n dCap sCap : Nat) (ad : Addr) (hd : a.eval d = .slice (some ⟨g, 0, none⟩) n dCap) (hs : a.eval s = .slice (some ad) n sCap)
    (cur : List Value) (t : TypeId) (hg : w.heap[g]? = some (.cells cur.toArray t (0, 0))) (cs : List Value) (hn : cs.length = n * size) (hl : cur.length = cs.length)
    (hsrc : ∀ j v, cs[j]? = some v → w.cell? (ad.add j) = some v) (h1 : ∀ v ∈ cs, v.oneCell' = true)
    (h : ∀ w', w'.heap[g]? = some (.cells cs.toArray t (0, 0)) → (∀ B w0, Below B w0 w → B ≤ g → Below B w0 w') → wpList P ops Q rest (a.put o.dst (goInt n)) w') : wpList P ops Q (o :: rest) a w := by
  refine wpList_plain hgd fun K hK => ?_
  subst hsz
  have hll := run_loadCells_list (P := P) (w := w) ad cs hsrc
  have hst := run_storeCells_at P g 0 t cs 0 cur.toArray w hg (by simp; omega) h1
  have hmin : Nat.min n n = n := Nat.min_self n
  rw [hn] at hll
  have hrun : (Builtin.copy_ #[dT, sT] o.type #[.slice (some ⟨g, 0, none⟩) n dCap, .slice (some ad) n sCap]).run P w = .ok (goInt n) (w.setRow g cs.toArray) := by
    have e2 : (cur.take 0 ++ cs ++ cur.drop (0 + cs.length)) = cs := by
      rw [List.take_zero, List.nil_append, Nat.zero_add, ← hl, List.drop_length, List.append_nil]
    simp only [Nat.add_zero] at hst
    have e3 : (List.take 0 cur.toArray.toList ++ cs ++ List.drop (0 + cs.length) cur.toArray.toList) = cs := by simpa using e2
    rw [e3] at hst
    simp [Builtin.copy_, run_underlying hu, Builtin.lenOf, Builtin.firstCells, sizeOf, typeInfo, hi, hll, hst]
  unfold Oper.wp
  simp [execOp, ho, resolve, invoke, builtin, hd, hs, hrun, Result.andThen]
  refine hK _ _ (h _ (setRow_heap w g _ _ t _ hg) fun B w0 hb hB => ?_)
  exact hb.trans ⟨rfl, rfl, rfl, by simp [World.setRow], fun k hk => setRow_other w g k _ (by omega)⟩
end
section
variable {q : Nat} {T : TypeId} {nx hd to th es eg eb ec ed : Int} {ek : Bool} {w w' : World} {got : List EP} {sl : Value}
theorem see_reads12 {w : World} {g off n c : Nat} {xs : List EP} (h : SeeE w (.slice (some ⟨g, off, none⟩) n c) xs) : ∀ j u, (flatE xs)[j]? = some u → w.cell? ((⟨g, off, none⟩ : Addr).add j) = some u := by
  rcases h with ⟨e, _⟩ | ⟨g', off', c', e, _, _, hr⟩
  · cases e
  · injection e with e1 e2 e3
    injection e1 with e1
    injection e1 with e4 e5 e6
    subst e4 e5
    intro j u hj
    have h9 := hr j u hj
    by_cases h0 : j = 0
    · subst h0
      simpa [Addr.add] using h9
    · simpa [Addr.add, h0] using h9
theorem gotT_none (w : World) : Calls Tryz.prog 30 #[.pointer none] w fun e w' => e = .returned (.slice none 0 0) ∧ w' = w := by
  go_enter Tryz.func30, Tryz.ntmps30
  go_wp2_with fail
  go_ret
  exact ⟨rfl, rfl⟩
theorem gotT_live (k : Bq q T (UC nx hd to th (TTl es eg ek eb ec ed sl)) w) (h : nx ≠ 0) : Calls Tryz.prog 30 #[.pointer (some ⟨q, 0, none⟩)] w fun e w' => e = .returned (.slice none 0 0) ∧ w' = w := by
  have HK := Lib.hid k
  have hz : (nx == 0) = false := beq_eq_false_iff_ne.2 h
  clear k h
  go_enter Tryz.func30, Tryz.ntmps30
  go_wp2_with fail
  ((with_reducible refine (overU HK.out).mono ?_); rintro ee w1 ⟨rfl, rfl⟩)
  go_wp2_with fail
  go_ret
  exact ⟨rfl, rfl⟩
theorem gotT_empty {A : Option Addr} {c : Nat} (k : Bq q T (UC 0 hd to th (TTl es eg ek eb ec ed (.slice A 0 c))) w) : Calls Tryz.prog 30 #[.pointer (some ⟨q, 0, none⟩)] w fun e w' => e = .returned (.slice none 0 0) ∧ w' = w := by
  have HK := Lib.hid k
  have g10 := k.tc12.2.2.2.2.2.2
  clear k
  go_enter Tryz.func30, Tryz.ntmps30
  go_wp2_with fail
  ((with_reducible refine (overU HK.out).mono ?_); rintro ee w1 ⟨rfl, rfl⟩)
  go_wp2_with fail
  go_ret
  exact ⟨rfl, rfl⟩
set_option maxRecDepth 100000 in
set_option maxHeartbeats 8000000 in
theorem gotT_some {A : Option Addr} {n c : Nat} (k : Bq q T (UC 0 hd to th (TTl es eg ek eb ec ed (.slice A n c))) w) (R : OwnE w 0 (.slice A n c) got) (hn : n = got.length) (h0 : 0 < n) (hl : n ≤ 256) : Calls Tryz.prog 30 #[.pointer (some ⟨q, 0, none⟩)] w fun e w' => ∃ A' k', e = .returned (.slice A' n k') ∧ OwnE w' w.heap.size (.slice A' n k') got ∧ Below w.heap.size w w' := by
  obtain ⟨i0, hi0, hz0, hz1, hz2⟩ := info_parts infoE
  have HK := Lib.hid k
  have HN := Lib.hid hn
  have g10 := k.tc12.2.2.2.2.2.2
  obtain ⟨hc0, hc1, g1, o1, rfl⟩ := R.see.addr h0
  have HR := Lib.hid R.see
  have hn1 : ¬ (n : Int) = 0 := by omega
  have hn2 : ((n : Int) == 0) = false := beq_eq_false_iff_ne.2 hn1
  have hn3 : ¬ n = 0 := by omega
  clear k R hn
  go_enter Tryz.func30, Tryz.ntmps30
  go_wp2_with fail
  ((with_reducible refine (overU HK.out).mono ?_); rintro ee w1 ⟨rfl, rfl⟩)
  go_upto_region 4 with (at_make; go_loud (refine wpList_make_full _ rfl _ _ 31 rfl 0 62 i0 _ 6 Tryz.underlying31 hi0 hz0 hz1 .i64 .i64 _ _ n rfl rfl rfl rfl (by rw [hz2]; omega) (by unfold maxLen; omega) (Nat.zero_le _) ?_; intro w2 ho hg; have HO := Lib.hid (And.intro ho (grown_none hg)); have c10 := (HK.out.below (grown_none hg)).tc12.2.2.2.2.2.2; clear ho hg))
  clear g10
  go_wp2_with (refine wpList_copy_whole rfl (.tmp 27) (.tmp 31) 31 31 rfl 62 Tryz.underlying31 i0 6 hi0 hz1 w1.heap.size n n c ⟨g1, o1, none⟩ rfl rfl _ 62 (own_whole HO.out.1) (flatE got) (by rw [flatE_len, HN.out]) (by rw [HO.out.1.1, flatE_len, HN.out]) (see_reads12 (HR.out.below HO.out.2)) (flatE_one (xs := got)) ?_; intro w5 hg5 hb5; have HG5 := Lib.hid (And.intro hg5 (hb5 _ _ HO.out.2 (Nat.le_refl _))); clear hg5 hb5)
  go_ret
  obtain ⟨hg5, hb5⟩ := HG5.out
  obtain rfl : n = got.length := HN.out
  refine ⟨_, _, rfl, ?_, hb5⟩
  exact ⟨flatE_len got, .inr ⟨_, _, (flatE got).toArray, rfl, Nat.le_refl _, hg5, Nat.le_refl _, by unfold maxLen; omega, by simp [flatE_len], by simp [flatE_len, List.take_of_length_le]⟩⟩
end
end Go.Proofs.YtjpanofkikfeoaaGreatDoor
