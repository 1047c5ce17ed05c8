/-
  Package allocs; conditions as each theorem says.
-/
import Derived.Test.YtmjcbjcnmgleaaaGreatDoorXP18
import Derived.Test.YtmjcbjcnmgleaaaGreatDoorXP19
import Derived.Test.YtmjcbjcnmgleaaaGreatDoorXP01
namespace Go.Proofs.YtmjcbjcnmgleaaaGreatDoor
open Go.RowKit Go.Maps
theorem Only.onl {p b q : Nat} {E : List Nat} {X Y : World} (h : Only q q X Y) (hq : q ∈ E) : Onl p b E X Y := ⟨h.os, h.tape, h.output, h.size, fun k hk _ _ h3 => h.block k hk (fun e => h3 (e ▸ hq)) (fun e => h3 (e ▸ hq))⟩
theorem VX.onlyq {p b q : Nat} {M : MV} {X Y : World} (F : VX p b M X) (h : Only q q X Y) (hp : q ≠ p) (hb : q ≠ b) (hq : 1 < q) : VX p b M Y :=
  F.keep h.size (h.block p F.lt.1 (Ne.symm hp) (Ne.symm hp)) (h.block b F.lt.2 (Ne.symm hb) (Ne.symm hb)) (h.block _ F.lay.1 (by omega) (by omega)) (h.block _ F.laym.1 (by omega) (by omega))
def FreshX (q n : Nat) (pt bt : TypeId) (cs : List Value) (t : TypeId) (z : Value) (X : World) : Prop := t = pt ∧ ∃ r, z = .pointer (some ⟨r, 0, none⟩) ∧ n ≤ r ∧ r ≠ q ∧ Bq r bt cs X
theorem FreshX.set {q n : Nat} {pt bt : TypeId} {cs : List Value} (t : TypeId) (z : Value) (X : World) (v : Value) (h : FreshX q n pt bt cs t z X) : FreshX q n pt bt cs t z (X.setCell ⟨q, 0, none⟩ v) := by
  obtain ⟨h1, r, h2, h3, h4, h5⟩ := h
  exact ⟨h1, r, h2, h3, h4, h5.setO h4 0 v⟩
section
variable {p b q : Nat} {E : List Nat} {pt : TypeId} {f : FuncId} {rv v1 v2 v3 v4 u1 u2 u3 u4 : Value} {M : MV} {w : World} {R : World → Prop} {S : TypeId → Value → World → Prop}
theorem parkX_no (he : ∀ args X, (callFunc f args).run Tryz.prog X = .ok (.enter f args) X) (hm : ∀ X, (method (409) pt rv "Step").run Tryz.prog X = .ok (f, rv) X) (k : Bq q 245 [.iface pt rv, v1, v2, v3] w)
    (hs : Calls Tryz.prog f #[rv, .pointer (some ⟨p, 0, none⟩)] w fun e w1 => e = .returned (.bool false) ∧ R w1) (hR : ∀ w1, R w1 → Bq q 245 [.iface pt rv, v1, v2, v3] w1 ∧ VX p b M w1 ∧ Onl p b E w w1) :
    Calls Tryz.prog 195 #[.pointer (some ⟨q, 0, none⟩), .pointer (some ⟨p, 0, none⟩)] w fun e w' => e = .returned (.bool false) ∧ R w' :=
  parkStep_no he hm k hs (fun w1 h => (hR w1 h).1)
theorem parkX_on (hq : 1 < q) (he : ∀ args X, (callFunc f args).run Tryz.prog X = .ok (.enter f args) X) (hm : ∀ X, (method (409) pt rv "Step").run Tryz.prog X = .ok (f, rv) X) (k : Bq q 245 [.iface pt rv, v1, v2, v3] w)
    (hs : Calls Tryz.prog f #[rv, .pointer (some ⟨p, 0, none⟩)] w fun e w1 => e = .returned (.bool true) ∧ R w1) (hR : ∀ w1, R w1 → Bq q 245 [.iface pt rv, v1, v2, v3] w1 ∧ VX p b M w1 ∧ Onl p b E w w1)
    (hB : ∀ w1, R w1 → Calls Tryz.prog 197 #[.pointer (some ⟨q, 0, none⟩)] w1 fun e w2 => ∃ t z, e = .returned (.iface t z) ∧ S t z w2 ∧ Bq q 245 [.iface pt rv, u1, u2, u3] w2 ∧ Only q q w1 w2)
    (hS : ∀ t z X v, S t z X → S t z (X.setCell ⟨q, 0, none⟩ v)) :
    Calls Tryz.prog 195 #[.pointer (some ⟨q, 0, none⟩), .pointer (some ⟨p, 0, none⟩)] w fun e w' => e = .returned (.bool false) ∧ ∃ t z, S t z w' ∧ Bq q 245 [.iface t z, u1, u2, u3] w' ∧ VX p b M w' ∧ Onl p b (q :: E) w w' := by
  refine (parkStep_on (R := R) (S := fun z X => ∃ t y, z = .iface t y ∧ S t y X ∧ Bq q 245 [.iface pt rv, u1, u2, u3] X ∧ VX p b M X ∧ Onl p b (q :: E) w X) he hm k hs ?_ ?_).mono ?_
  · intro w1 h1
    obtain ⟨k1, F1, O1⟩ := hR w1 h1
    have hne := F1.ne (by decide) k1
    refine (hB w1 h1).mono ?_
    rintro e w2 ⟨t, z, rfl, h2, h3, h4⟩
    exact ⟨t, z, rfl, t, z, rfl, h2, h3, F1.onlyq h4 hne.1 hne.2 hq, (O1.more (fun x hx => List.mem_cons_of_mem _ hx)).trans (h4.onl (List.mem_cons_self ..))⟩
  · rintro z X ⟨t, y, _, _, h3, _⟩
    exact ⟨_, _, _, h3⟩
  · rintro e w' ⟨t, z, X, ⟨t', y, hz, h2, h3, h4, h5⟩, rfl, rfl⟩
    cases hz
    have hne := h4.ne (by decide) h3
    exact ⟨rfl, t, z, hS _ _ _ _ h2, h3.set 0 _ rfl, h4.setQ hne.1 hne.2 hq 0 _, h5.trans (.setCell _ (List.mem_cons_self ..) 0 _)⟩
theorem parkX_end (hq : 1 < q) (he : ∀ args X, (callFunc f args).run Tryz.prog X = .ok (.enter f args) X) (hm : ∀ X, (method (409) pt rv "Step").run Tryz.prog X = .ok (f, rv) X) (k : Bq q 245 [.iface pt rv, v1, v2, v3] w)
    (hs : Calls Tryz.prog f #[rv, .pointer (some ⟨p, 0, none⟩)] w fun e w1 => e = .returned (.bool true) ∧ R w1) (hR : ∀ w1, R w1 → Bq q 245 [.iface pt rv, v1, v2, v3] w1 ∧ VX p b M w1 ∧ Onl p b E w w1)
    (hB : ∀ w1, R w1 → Calls Tryz.prog 197 #[.pointer (some ⟨q, 0, none⟩)] w1 fun e w2 => e = .returned .nilIface ∧ Bq q 245 [.iface pt rv, u1, u2, u3] w2 ∧ Only q q w1 w2) :
    Calls Tryz.prog 195 #[.pointer (some ⟨q, 0, none⟩), .pointer (some ⟨p, 0, none⟩)] w fun e w' => e = .returned (.bool true) ∧ Bq q 245 [.nilIface, u1, u2, u3] w' ∧ VX p b M w' ∧ Onl p b (q :: E) w w' := by
  refine (parkStep_end (R := R) (S := fun z X => Bq q 245 [.iface pt rv, u1, u2, u3] X ∧ VX p b M X ∧ Onl p b (q :: E) w X) he hm k hs ?_ ?_).mono ?_
  · intro w1 h1
    obtain ⟨k1, F1, O1⟩ := hR w1 h1
    have hne := F1.ne (by decide) k1
    refine (hB w1 h1).mono ?_
    rintro e w2 ⟨rfl, h3, h4⟩
    exact ⟨rfl, h3, F1.onlyq h4 hne.1 hne.2 hq, (O1.more (fun x hx => List.mem_cons_of_mem _ hx)).trans (h4.onl (List.mem_cons_self ..))⟩
  · rintro z X ⟨h3, _⟩
    exact ⟨_, _, _, h3⟩
  · rintro e w' ⟨X, ⟨h3, h4, h5⟩, rfl, rfl⟩
    have hne := h4.ne (by decide) h3
    exact ⟨rfl, h3.set 0 _ rfl, h4.setQ hne.1 hne.2 hq 0 _, h5.trans (.setCell _ (List.mem_cons_self ..) 0 _)⟩
theorem park_fresh {pt' bt' : TypeId} {part : List Value} {n : Nat} {w1 : World} (hn : n ≤ w1.heap.size) (hqw : q < w1.heap.size) (h : Calls Tryz.prog 197 #[.pointer (some ⟨q, 0, none⟩)] w1 (Behind 245 pt' bt' q [.iface pt rv, u1, u2, u3] part w1)) :
    Calls Tryz.prog 197 #[.pointer (some ⟨q, 0, none⟩)] w1 fun e w2 => ∃ t z, e = .returned (.iface t z) ∧ FreshX q n pt' bt' part t z w2 ∧ Bq q 245 [.iface pt rv, u1, u2, u3] w2 ∧ Only q q w1 w2 := by
  refine h.mono ?_
  rintro e w2 ⟨r, rfl, h1, h2, h3, h4⟩
  exact ⟨_, _, rfl, ⟨rfl, r, rfl, Nat.le_trans hn h1, by omega, h2⟩, h3, h4⟩
theorem allocX_no (he : ∀ args X, (callFunc f args).run Tryz.prog X = .ok (.enter f args) X) (hm : ∀ X, (method (409) pt rv "Step").run Tryz.prog X = .ok (f, rv) X) (k : Bq q 167 [.iface pt rv, v1, v2, v3, v4] w)
    (hs : Calls Tryz.prog f #[rv, .pointer (some ⟨p, 0, none⟩)] w fun e w1 => e = .returned (.bool false) ∧ R w1) (hR : ∀ w1, R w1 → Bq q 167 [.iface pt rv, v1, v2, v3, v4] w1 ∧ VX p b M w1 ∧ Onl p b E w w1) :
    Calls Tryz.prog 52 #[.pointer (some ⟨q, 0, none⟩), .pointer (some ⟨p, 0, none⟩)] w fun e w' => e = .returned (.bool false) ∧ R w' :=
  allocStep_no he hm k hs (fun w1 h => (hR w1 h).1)
theorem allocX_on (hq : 1 < q) (he : ∀ args X, (callFunc f args).run Tryz.prog X = .ok (.enter f args) X) (hm : ∀ X, (method (409) pt rv "Step").run Tryz.prog X = .ok (f, rv) X) (k : Bq q 167 [.iface pt rv, v1, v2, v3, v4] w)
    (hs : Calls Tryz.prog f #[rv, .pointer (some ⟨p, 0, none⟩)] w fun e w1 => e = .returned (.bool true) ∧ R w1) (hR : ∀ w1, R w1 → Bq q 167 [.iface pt rv, v1, v2, v3, v4] w1 ∧ VX p b M w1 ∧ Onl p b E w w1)
    (hB : ∀ w1, R w1 → Calls Tryz.prog 90 #[.pointer (some ⟨q, 0, none⟩)] w1 fun e w2 => ∃ t z, e = .returned (.iface t z) ∧ S t z w2 ∧ Bq q 167 [.iface pt rv, u1, u2, u3, u4] w2 ∧ Only q q w1 w2)
    (hS : ∀ t z X v, S t z X → S t z (X.setCell ⟨q, 0, none⟩ v)) :
    Calls Tryz.prog 52 #[.pointer (some ⟨q, 0, none⟩), .pointer (some ⟨p, 0, none⟩)] w fun e w' => e = .returned (.bool false) ∧ ∃ t z, S t z w' ∧ Bq q 167 [.iface t z, u1, u2, u3, u4] w' ∧ VX p b M w' ∧ Onl p b (q :: E) w w' := by
  refine (allocStep_on (R := R) (S := fun z X => ∃ t y, z = .iface t y ∧ S t y X ∧ Bq q 167 [.iface pt rv, u1, u2, u3, u4] X ∧ VX p b M X ∧ Onl p b (q :: E) w X) he hm k hs ?_ ?_).mono ?_
  · intro w1 h1
    obtain ⟨k1, F1, O1⟩ := hR w1 h1
    have hne := F1.ne (by decide) k1
    refine (hB w1 h1).mono ?_
    rintro e w2 ⟨t, z, rfl, h2, h3, h4⟩
    exact ⟨t, z, rfl, t, z, rfl, h2, h3, F1.onlyq h4 hne.1 hne.2 hq, (O1.more (fun x hx => List.mem_cons_of_mem _ hx)).trans (h4.onl (List.mem_cons_self ..))⟩
  · rintro z X ⟨t, y, _, _, h3, _⟩
    exact ⟨_, _, _, _, h3⟩
  · rintro e w' ⟨t, z, X, ⟨t', y, hz, h2, h3, h4, h5⟩, rfl, rfl⟩
    cases hz
    have hne := h4.ne (by decide) h3
    exact ⟨rfl, t, z, hS _ _ _ _ h2, h3.set 0 _ rfl, h4.setQ hne.1 hne.2 hq 0 _, h5.trans (.setCell _ (List.mem_cons_self ..) 0 _)⟩
theorem allocX_end (hq : 1 < q) (he : ∀ args X, (callFunc f args).run Tryz.prog X = .ok (.enter f args) X) (hm : ∀ X, (method (409) pt rv "Step").run Tryz.prog X = .ok (f, rv) X) (k : Bq q 167 [.iface pt rv, v1, v2, v3, v4] w)
    (hs : Calls Tryz.prog f #[rv, .pointer (some ⟨p, 0, none⟩)] w fun e w1 => e = .returned (.bool true) ∧ R w1) (hR : ∀ w1, R w1 → Bq q 167 [.iface pt rv, v1, v2, v3, v4] w1 ∧ VX p b M w1 ∧ Onl p b E w w1)
    (hB : ∀ w1, R w1 → Calls Tryz.prog 90 #[.pointer (some ⟨q, 0, none⟩)] w1 fun e w2 => e = .returned .nilIface ∧ Bq q 167 [.iface pt rv, u1, u2, u3, u4] w2 ∧ Only q q w1 w2) :
    Calls Tryz.prog 52 #[.pointer (some ⟨q, 0, none⟩), .pointer (some ⟨p, 0, none⟩)] w fun e w' => e = .returned (.bool true) ∧ Bq q 167 [.nilIface, u1, u2, u3, u4] w' ∧ VX p b M w' ∧ Onl p b (q :: E) w w' := by
  refine (allocStep_end (R := R) (S := fun z X => Bq q 167 [.iface pt rv, u1, u2, u3, u4] X ∧ VX p b M X ∧ Onl p b (q :: E) w X) he hm k hs ?_ ?_).mono ?_
  · intro w1 h1
    obtain ⟨k1, F1, O1⟩ := hR w1 h1
    have hne := F1.ne (by decide) k1
    refine (hB w1 h1).mono ?_
    rintro e w2 ⟨rfl, h3, h4⟩
    exact ⟨rfl, h3, F1.onlyq h4 hne.1 hne.2 hq, (O1.more (fun x hx => List.mem_cons_of_mem _ hx)).trans (h4.onl (List.mem_cons_self ..))⟩
  · rintro z X ⟨h3, _⟩
    exact ⟨_, _, _, _, h3⟩
  · rintro e w' ⟨X, ⟨h3, h4, h5⟩, rfl, rfl⟩
    have hne := h4.ne (by decide) h3
    exact ⟨rfl, h3.set 0 _ rfl, h4.setQ hne.1 hne.2 hq 0 _, h5.trans (.setCell _ (List.mem_cons_self ..) 0 _)⟩
theorem alloc_fresh {pt' bt' : TypeId} {part : List Value} {n : Nat} {w1 : World} (hn : n ≤ w1.heap.size) (hqw : q < w1.heap.size) (h : Calls Tryz.prog 90 #[.pointer (some ⟨q, 0, none⟩)] w1 (Behind 167 pt' bt' q [.iface pt rv, u1, u2, u3, u4] part w1)) :
    Calls Tryz.prog 90 #[.pointer (some ⟨q, 0, none⟩)] w1 fun e w2 => ∃ t z, e = .returned (.iface t z) ∧ FreshX q n pt' bt' part t z w2 ∧ Bq q 167 [.iface pt rv, u1, u2, u3, u4] w2 ∧ Only q q w1 w2 := by
  refine h.mono ?_
  rintro e w2 ⟨r, rfl, h1, h2, h3, h4⟩
  exact ⟨_, _, rfl, ⟨rfl, r, rfl, Nat.le_trans hn h1, by omega, h2⟩, h3, h4⟩
end
end Go.Proofs.YtmjcbjcnmgleaaaGreatDoor
namespace Go.Proofs.YtmjcbjcnmgleaaaGreatDoor
open Go.RowKit Go.Maps
def adH (s : Int) : Ad := if h : (Lit.int .i64 s).wf = true then ⟨9, s, 0, by decide, h, by decide⟩ else adF
def adB (s : Int) : Ad := if h : (Lit.int .i64 s).wf = true then ⟨9, s, 1, by decide, h, by decide⟩ else adF
def adG (s : Int) : Ad := if h : (Lit.int .i64 s).wf = true then ⟨6, s, 0, by decide, h, by decide⟩ else adF
def adP (s : Int) : Ad := if h : (Lit.int .i64 s).wf = true then ⟨6, s, 1, by decide, h, by decide⟩ else adF
def adEr : Ad := ⟨2, 0, 0, by decide, by decide, by decide⟩
theorem adH_at {s : Int} (h : I64w s) : (adH s).k = 9 ∧ (adH s).a = s ∧ (adH s).f = 0 := by unfold adH; rw [dif_pos (show (Lit.int .i64 s).wf = true from h)]; exact ⟨rfl, rfl, rfl⟩
theorem adB_at {s : Int} (h : I64w s) : (adB s).k = 9 ∧ (adB s).a = s ∧ (adB s).f = 1 := by unfold adB; rw [dif_pos (show (Lit.int .i64 s).wf = true from h)]; exact ⟨rfl, rfl, rfl⟩
theorem adG_at {s : Int} (h : I64w s) : (adG s).k = 6 ∧ (adG s).a = s ∧ (adG s).f = 0 := by unfold adG; rw [dif_pos (show (Lit.int .i64 s).wf = true from h)]; exact ⟨rfl, rfl, rfl⟩
theorem adP_at {s : Int} (h : I64w s) : (adP s).k = 6 ∧ (adP s).a = s ∧ (adP s).f = 1 := by unfold adP; rw [dif_pos (show (Lit.int .i64 s).wf = true from h)]; exact ⟨rfl, rfl, rfl⟩
theorem ldc_H {s : Int} (h : I64w s) (v : Int) : LdC (adH s) v = [.int .u8 9, .int .i64 s, .int .i64 0, .int .u64 v] := by unfold LdC; rw [(adH_at h).1, (adH_at h).2.1, (adH_at h).2.2]
theorem ldc_B {s : Int} (h : I64w s) (v : Int) : LdC (adB s) v = [.int .u8 9, .int .i64 s, .int .i64 1, .int .u64 v] := by unfold LdC; rw [(adB_at h).1, (adB_at h).2.1, (adB_at h).2.2]
theorem ldc_G {s : Int} (h : I64w s) (v : Int) : LdC (adG s) v = [.int .u8 6, .int .i64 s, .int .i64 0, .int .u64 v] := by unfold LdC; rw [(adG_at h).1, (adG_at h).2.1, (adG_at h).2.2]
theorem ctc_P {s : Int} (h : I64w s) (g v : Int) (d : Bool) : CtC (adP s) g v d = [.int .u8 6, .int .i64 s, .int .i64 1, .int .i64 g, .int .u64 v, .bool d] := by unfold CtC; rw [(adP_at h).1, (adP_at h).2.1, (adP_at h).2.2]
theorem swc_H {s : Int} (h : I64w s) (u v : Int) (d : Bool) : SwC (adH s) u v d = [.int .u8 9, .int .i64 s, .int .i64 0, .int .u64 u, .int .u64 v, .bool d] := by unfold SwC; rw [(adH_at h).1, (adH_at h).2.1, (adH_at h).2.2]
theorem slot_i64 {s : Int} (h : 0 ≤ s ∧ s < 256) : I64w s := i64w_in (by omega) (by omega)
theorem seg_i64 {s : Int} (h : 0 ≤ s ∧ s < 256) : I64w (segF s) := i64w_in (by unfold segF; omega) (by unfold segF; omega)
theorem seg_quo {s : Int} (h : 0 ≤ s ∧ s < 256) : Int.tdiv s 8 = segF s := Int.tdiv_eq_ediv_of_nonneg h.1
theorem seg_wrap {s : Int} (h : 0 ≤ s ∧ s < 256) : IntKind.i64.wrap (segF s) = segF s := by
  unfold segF
  simp [IntKind.wrap, IntKind.bits, IntKind.signed]
  omega
theorem up_wrap (n : Int) : IntKind.u64.wrap (n + 1) = up64 n := by rw [IntKind.wrap_u64]; rfl
theorem down_wrap (n : Int) : IntKind.u64.wrap (n + 18446744073709551615) = down64 n := by rw [IntKind.wrap_u64]; unfold down64; omega
theorem up_u64 (n : Int) : U64 (up64 n) := by unfold up64; exact ⟨by omega, by omega⟩
theorem down_u64 (n : Int) : U64 (down64 n) := by unfold down64; exact ⟨by omega, by omega⟩
theorem gW_in (w : Int) : 0 ≤ gW w ∧ gW w < 4294967296 := by
  have h1 := fld_nonneg w 3 32
  have h2 := fld_lt w 3 32
  have h3 : (2 : Int) ^ 32 = 4294967296 := by decide
  rw [h3] at h2
  exact ⟨h1, h2⟩
theorem hdrW_u64 {s : Int} (w : Int) (h : 0 ≤ s) : U64 (headerW s (gW w)) := headerW_u64 s (gW w) h ⟨(gW_in w).1, by have := (gW_in w).2; omega⟩
def parkX (o : PO) (M : MV) : PO × MV :=
  if o.ln = 1 then ({ o with ln := 2, w := M.V (adH o.sl) }, ldM M (adH o.sl))
  else if o.ln = 2 then ({ o with ln := 3 }, stM M (adH o.sl) (headerW 3 (gW o.w)))
  else if o.ln = 3 then ({ o with ln := 4, n := M.V (adP (segF o.sl)) }, ldM M (adP (segF o.sl)))
  else if o.ln = 4 then ({ o with ln := if casV M.V (adP (segF o.sl)) o.n = true then 5 else 3 }, csM M (adP (segF o.sl)) o.n (up64 o.n))
  else if o.ln = 5 then (if M.V (adG (segF o.sl)) = 1 then { o with ln := 6 } else { o with ln := 0, st := true }, ldM M (adG (segF o.sl)))
  else if o.ln = 6 then ({ o with ln := 7, n := M.V (adP (segF o.sl)) }, ldM M (adP (segF o.sl)))
  else if o.ln = 7 then ({ o with ln := if casV M.V (adP (segF o.sl)) o.n = true then 8 else 6 }, csM M (adP (segF o.sl)) o.n (down64 o.n))
  else if o.ln = 8 then ({ o with ln := if M.V (adG (segF o.sl)) = 1 then 9 else 3 }, ldM M (adG (segF o.sl)))
  else if o.ln = 9 then ({ o with ln := if casV M.V (adH o.sl) (headerW 3 (gW o.w)) = true then 10 else 11 }, csM M (adH o.sl) (headerW 3 (gW o.w)) (headerW 0 (gW o.w)))
  else if o.ln = 10 then ({ o with ln := if (pushX o.psh M).1.nx = 0 then 0 else 10, psh := (pushX o.psh M).1 }, (pushX o.psh M).2)
  else if o.ln = 11 then ({ o with ln := 12, n := M.V (adP (segF o.sl)) }, ldM M (adP (segF o.sl)))
  else if o.ln = 12 then ({ o with ln := if casV M.V (adP (segF o.sl)) o.n = true then 0 else 11 }, csM M (adP (segF o.sl)) o.n (up64 o.n))
  else (o, M)
structure PkNum (o : PO) : Prop where
  sl : 0 ≤ o.sl ∧ o.sl < 256
  w : U64 o.w
  n : U64 o.n
  st : o.ln ≠ 0 → o.st = false
  psh : o.ln ≠ 0 → o.ln ≤ 9 → o.psh = ⟨1, 0, o.sl⟩
  pnx : o.ln = 10 → U64 o.psh.h ∧ 0 ≤ o.psh.nx ∧ o.psh.nx ≤ 3 ∧ o.psh.to = o.sl
  ln : 0 ≤ o.ln ∧ o.ln ≤ 12
inductive PkPart (o : PO) : TypeId → TypeId → List Value → Prop
  | l1 (h : o.ln = 1) : PkPart o 162 209 [.int .u8 9, .int .i64 o.sl, .int .i64 0, .int .u64 0]
  | l2 (h : o.ln = 2) : PkPart o 291 292 [.int .u8 9, .int .i64 o.sl, .int .i64 0, .int .u64 (headerW 3 (gW o.w))]
  | l3 (x : Int) (h : o.ln = 3) : PkPart o 229 249 [.int .u8 6, .int .i64 (segF o.sl), .int .i64 1, .int .i64 1, .int .u64 x, .bool false]
  | l4 (h : o.ln = 4) : PkPart o 229 249 [.int .u8 6, .int .i64 (segF o.sl), .int .i64 1, .int .i64 1, .int .u64 o.n, .bool true]
  | l5 (h : o.ln = 5) : PkPart o 211 213 [.int .u8 6, .int .i64 (segF o.sl), .int .i64 0, .int .u64 0]
  | l6 (x : Int) (h : o.ln = 6) : PkPart o 293 294 [.int .u8 6, .int .i64 (segF o.sl), .int .i64 1, .int .i64 (-1), .int .u64 x, .bool false]
  | l7 (h : o.ln = 7) : PkPart o 293 294 [.int .u8 6, .int .i64 (segF o.sl), .int .i64 1, .int .i64 (-1), .int .u64 o.n, .bool true]
  | l8 (h : o.ln = 8) : PkPart o 295 296 [.int .u8 6, .int .i64 (segF o.sl), .int .i64 0, .int .u64 0]
  | l9 (h : o.ln = 9) : PkPart o 297 302 [.int .u8 9, .int .i64 o.sl, .int .i64 0, .int .u64 (headerW 3 (gW o.w)), .int .u64 (headerW 0 (gW o.w)), .bool false]
  | l10 (h : o.ln = 10) : PkPart o 152 198 [.int .i64 o.psh.nx, .int .u64 o.psh.h, .int .i64 o.psh.to]
  | l11 (x : Int) (h : o.ln = 11) : PkPart o 303 304 [.int .u8 6, .int .i64 (segF o.sl), .int .i64 1, .int .i64 1, .int .u64 x, .bool false]
  | l12 (h : o.ln = 12) : PkPart o 303 304 [.int .u8 6, .int .i64 (segF o.sl), .int .i64 1, .int .i64 1, .int .u64 o.n, .bool true]
def genP (o : PO) : Int := if o.ln = 1 then 0 else gW o.w
def PkX (q r : Nat) (o : PO) (w : World) : Prop :=
  (o.ln = 0 ∧ ∃ s g, Bq q 245 [.nilIface, .int .i64 s, .int .u32 g, .bool o.st] w) ∨
  (∃ pt bt cs, PkPart o pt bt cs ∧ Bq q 245 [.iface pt (.pointer (some ⟨r, 0, none⟩)), .int .i64 o.sl, .int .u32 (genP o), .bool o.st] w ∧ Bq r bt cs w)
theorem PkPart.ne {o : PO} {pt bt : TypeId} {cs : List Value} (h : PkPart o pt bt cs) : bt ≠ 245 ∧ bt ≠ 121 ∧ o.ln ≠ 0 := by
  cases h <;> exact ⟨by decide, by decide, by omega⟩
section
theorem mt_header (r : Nat) (w : World) : (method (409) 162 (.pointer (some ⟨r, 0, none⟩)) "Step").run Tryz.prog w = .ok (189, .pointer (some ⟨r, 0, none⟩)) w := by kernel_rfl
theorem mt_state (r : Nat) (w : World) : (method (409) 211 (.pointer (some ⟨r, 0, none⟩)) "Step").run Tryz.prog w = .ok (189, .pointer (some ⟨r, 0, none⟩)) w := by kernel_rfl
theorem mt_era (r : Nat) (w : World) : (method (409) 216 (.pointer (some ⟨r, 0, none⟩)) "Step").run Tryz.prog w = .ok (189, .pointer (some ⟨r, 0, none⟩)) w := by kernel_rfl
theorem mt_still (r : Nat) (w : World) : (method (409) 295 (.pointer (some ⟨r, 0, none⟩)) "Step").run Tryz.prog w = .ok (189, .pointer (some ⟨r, 0, none⟩)) w := by kernel_rfl
theorem mt_parked (r : Nat) (w : World) : (method (409) 291 (.pointer (some ⟨r, 0, none⟩)) "Step").run Tryz.prog w = .ok (199, .pointer (some ⟨r, 0, none⟩)) w := by kernel_rfl
theorem mt_birth (r : Nat) (w : World) : (method (409) 218 (.pointer (some ⟨r, 0, none⟩)) "Step").run Tryz.prog w = .ok (199, .pointer (some ⟨r, 0, none⟩)) w := by kernel_rfl
theorem mt_live (r : Nat) (w : World) : (method (409) 223 (.pointer (some ⟨r, 0, none⟩)) "Step").run Tryz.prog w = .ok (199, .pointer (some ⟨r, 0, none⟩)) w := by kernel_rfl
theorem mt_free (r : Nat) (w : World) : (method (409) 297 (.pointer (some ⟨r, 0, none⟩)) "Step").run Tryz.prog w = .ok (202, .pointer (some ⟨r, 0, none⟩)) w := by kernel_rfl
theorem mt_aside (r : Nat) (w : World) : (method (409) 229 (.pointer (some ⟨r, 0, none⟩)) "Step").run Tryz.prog w = .ok (200, .pointer (some ⟨r, 0, none⟩)) w := by kernel_rfl
theorem mt_back (r : Nat) (w : World) : (method (409) 293 (.pointer (some ⟨r, 0, none⟩)) "Step").run Tryz.prog w = .ok (200, .pointer (some ⟨r, 0, none⟩)) w := by kernel_rfl
theorem mt_amend (r : Nat) (w : World) : (method (409) 303 (.pointer (some ⟨r, 0, none⟩)) "Step").run Tryz.prog w = .ok (200, .pointer (some ⟨r, 0, none⟩)) w := by kernel_rfl
theorem mt_Push (r : Nat) (w : World) : (method (409) 152 (.pointer (some ⟨r, 0, none⟩)) "Step").run Tryz.prog w = .ok (83, .pointer (some ⟨r, 0, none⟩)) w := by kernel_rfl
theorem mt_Pop (r : Nat) (w : World) : (method (409) 164 (.pointer (some ⟨r, 0, none⟩)) "Step").run Tryz.prog w = .ok (191, .pointer (some ⟨r, 0, none⟩)) w := by kernel_rfl
theorem mt_Park (r : Nat) (w : World) : (method (409) 214 (.pointer (some ⟨r, 0, none⟩)) "Step").run Tryz.prog w = .ok (195, .pointer (some ⟨r, 0, none⟩)) w := by kernel_rfl
variable {p b q r : Nat} {bt bt' pt' Ty : TypeId} {cs cs1 op part : List Value} {o : PO} {M M' : MV} {w w' X : World}
def Rn (p b r q : Nat) (bt Ty : TypeId) (cs op : List Value) (M : MV) (w X : World) : Prop := Bq r bt cs X ∧ Bq q Ty op X ∧ VX p b M X ∧ Onl p b [r] w X
theorem Rn.of (k : Bq q Ty op w) (F : VX p b M w) (hT : Ty ≠ 121) (hqr : q ≠ r) (h1 : Bq r bt cs X) (h2 : VX p b M' X) (h3 : Onl p b [r] w X) : Rn p b r q bt Ty cs op M' w X :=
  ⟨h1, k.onl h3 (F.ne hT k).1 (F.ne hT k).2 (by simpa using hqr), h2, h3⟩
theorem Rn.use (h : Rn p b r q bt Ty cs op M w X) : Bq q Ty op X ∧ VX p b M X ∧ Onl p b [r] w X := h.2
def PkStepped (p b q r : Nat) (R : PO × MV) (w : World) (e : Ending) (w' : World) : Prop := e = .returned (.bool (R.1.ln == 0)) ∧ ∃ r', PkX q r' R.1 w' ∧ VX p b R.2 w' ∧ Onl p b [q, r] w w' ∧ (r' = r ∨ w.heap.size ≤ r')
theorem fls {x : Int} (h : x ≠ 0) : (x == 0) = false := by simpa using h
theorem pk1 (hq : 1 < q) (hr : 1 < r) (hqr : q ≠ r) (F : VX p b M w) (hs : M.s.st < 1000000) (ok : PkNum o) (h : o.ln = 1) (kq : Bq q 245 [.iface 162 (.pointer (some ⟨r, 0, none⟩)), .int .i64 o.sl, .int .u32 (genP o), .bool o.st] w) (kr : Bq r 209 [.int .u8 9, .int .i64 o.sl, .int .i64 0, .int .u64 0] w) :
    Calls Tryz.prog 195 #[.pointer (some ⟨q, 0, none⟩), .pointer (some ⟨p, 0, none⟩)] w (PkStepped p b q r (parkX o M) w) := by
  have e : parkX o M = ({ o with ln := 2, w := (M.V (adH o.sl)) }, ldM M (adH o.sl)) := by unfold parkX; rw [if_pos h]
  rw [e]
  have hne := F.ne (by decide) kq
  have hsl := slot_i64 ok.sl
  have hsg := seg_i64 ok.sl
  have hgen : genP o = 0 := if_pos h
  refine (parkX_on hq Tryz.call189 (mt_header r) kq (R := Rn p b r q 209 245 [.int .u8 9, .int .i64 o.sl, .int .i64 0, .int .u64 (M.V (adH o.sl))] [.iface 162 (.pointer (some ⟨r, 0, none⟩)), .int .i64 o.sl, .int .u32 (genP o), .bool o.st] (ldM M (adH o.sl)) w) (E := [r]) (M := (ldM M (adH o.sl))) ((loadLn_step (t := 209) (x := (adH o.sl)) hr (by decide) F hs (by rw [ldc_H hsl]; exact kr)).mono fun ee X hX => ⟨hX.1, .of kq F (by decide) hqr (by have := hX.2.1; rw [ldc_H hsl] at this; exact this) hX.2.2.1 hX.2.2.2⟩) (fun X hX => hX.use) (fun X hX => park_fresh (n := w.heap.size) hX.2.2.2.size hX.2.1.lt (pkB_header hX.2.1 hq hX.2.2.1.lay (F.u64 _) hX.1)) FreshX.set).mono ?_
  rintro ee w' ⟨rfl, t, z, ⟨rfl, r', rfl, h1, h2, h3⟩, h4, h5, h6⟩
  exact ⟨rfl, r', .inr ⟨_, _, _, .l2 rfl, h4, h3⟩, h5, h6, .inr h1⟩
theorem pk2 (hq : 1 < q) (_ : 1 < r) (hqr : q ≠ r) (F : VX p b M w) (hs : M.s.st < 1000000) (ok : PkNum o) (h : o.ln = 2) (kq : Bq q 245 [.iface 291 (.pointer (some ⟨r, 0, none⟩)), .int .i64 o.sl, .int .u32 (genP o), .bool o.st] w) (kr : Bq r 292 [.int .u8 9, .int .i64 o.sl, .int .i64 0, .int .u64 (headerW 3 (gW o.w))] w) :
    Calls Tryz.prog 195 #[.pointer (some ⟨q, 0, none⟩), .pointer (some ⟨p, 0, none⟩)] w (PkStepped p b q r (parkX o M) w) := by
  have e : parkX o M = ({ o with ln := 3 }, stM M (adH o.sl) (headerW 3 (gW o.w))) := by unfold parkX; rw [if_neg (by omega), if_pos h]
  rw [e]
  have hne := F.ne (by decide) kq
  have hsl := slot_i64 ok.sl
  have hsg := seg_i64 ok.sl
  have hgen : genP o = gW o.w := if_neg (by omega)
  refine (parkX_on hq Tryz.call199 (mt_parked r) kq (R := Rn p b r q 292 245 [.int .u8 9, .int .i64 o.sl, .int .i64 0, .int .u64 (headerW 3 (gW o.w))] [.iface 291 (.pointer (some ⟨r, 0, none⟩)), .int .i64 o.sl, .int .u32 (genP o), .bool o.st] (stM M (adH o.sl) (headerW 3 (gW o.w))) w) (E := [r]) (M := (stM M (adH o.sl) (headerW 3 (gW o.w)))) ((storeLn_step (t := 292) (x := (adH o.sl)) (by decide) F hs (hdrW_u64 o.w (by decide)) (by rw [ldc_H hsl]; exact kr)).mono fun ee X hX => ⟨hX.1, .of kq F (by decide) hqr (by have := hX.2.1; rw [ldc_H hsl] at this; exact this) hX.2.2.1 (hX.2.2.2.more (by simp))⟩) (fun X hX => hX.use) (fun X hX => park_fresh (n := w.heap.size) hX.2.2.2.size hX.2.1.lt (pkB_parked hX.2.1 (seg_quo ok.sl) (seg_wrap ok.sl))) FreshX.set).mono ?_
  rintro ee w' ⟨rfl, t, z, ⟨rfl, r', rfl, h1, h2, h3⟩, h4, h5, h6⟩
  exact ⟨rfl, r', .inr ⟨_, _, _, .l3 0 rfl, (by rw [hgen] at h4; exact h4), h3⟩, h5, h6, .inr h1⟩
theorem pk3 (_ : 1 < q) (hr : 1 < r) (hqr : q ≠ r) (F : VX p b M w) (hs : M.s.st < 1000000) (ok : PkNum o) (h : o.ln = 3) {x : Int} (kq : Bq q 245 [.iface 229 (.pointer (some ⟨r, 0, none⟩)), .int .i64 o.sl, .int .u32 (genP o), .bool o.st] w) (kr : Bq r 249 [.int .u8 6, .int .i64 (segF o.sl), .int .i64 1, .int .i64 1, .int .u64 x, .bool false] w) :
    Calls Tryz.prog 195 #[.pointer (some ⟨q, 0, none⟩), .pointer (some ⟨p, 0, none⟩)] w (PkStepped p b q r (parkX o M) w) := by
  have e : parkX o M = ({ o with ln := 4, n := (M.V (adP (segF o.sl))) }, ldM M (adP (segF o.sl))) := by unfold parkX; rw [if_neg (by omega), if_neg (by omega), if_pos h]
  rw [e]
  have hne := F.ne (by decide) kq
  have hsl := slot_i64 ok.sl
  have hsg := seg_i64 ok.sl
  have hgen : genP o = gW o.w := if_neg (by omega)
  refine (parkX_no Tryz.call200 (mt_aside r) kq (R := Rn p b r q 249 245 [.int .u8 6, .int .i64 (segF o.sl), .int .i64 1, .int .i64 1, .int .u64 (M.V (adP (segF o.sl))), .bool true] [.iface 229 (.pointer (some ⟨r, 0, none⟩)), .int .i64 o.sl, .int .u32 (genP o), .bool o.st] (ldM M (adP (segF o.sl))) w) (E := [r]) (M := (ldM M (adP (segF o.sl)))) ((count_load (t := 249) (x := (adP (segF o.sl))) (g := 1) hr (by decide) F hs (u := x) (by rw [ctc_P hsg]; exact kr)).mono fun ee X hX => ⟨hX.1, .of kq F (by decide) hqr (by have := hX.2.1; rw [ctc_P hsg] at this; exact this) hX.2.2.1 hX.2.2.2⟩) (fun X hX => hX.use)).mono ?_
  rintro ee w' ⟨rfl, h1, h2, h3, h4⟩
  rw [hgen] at h2
  exact ⟨rfl, r, .inr ⟨_, _, _, .l4 rfl, h2, h1⟩, h3, h4.more (by simp), .inl rfl⟩
theorem pk4_yes (hq : 1 < q) (hr : 1 < r) (hqr : q ≠ r) (F : VX p b M w) (hs : M.s.st < 1000000) (ok : PkNum o) (h : o.ln = 4) (hc : casV M.V (adP (segF o.sl)) o.n = true) (kq : Bq q 245 [.iface 229 (.pointer (some ⟨r, 0, none⟩)), .int .i64 o.sl, .int .u32 (genP o), .bool o.st] w) (kr : Bq r 249 [.int .u8 6, .int .i64 (segF o.sl), .int .i64 1, .int .i64 1, .int .u64 o.n, .bool true] w) :
    Calls Tryz.prog 195 #[.pointer (some ⟨q, 0, none⟩), .pointer (some ⟨p, 0, none⟩)] w (PkStepped p b q r (parkX o M) w) := by
  have e : parkX o M = ({ o with ln := 5 }, csM M (adP (segF o.sl)) o.n (up64 o.n)) := by unfold parkX; rw [if_neg (by omega), if_neg (by omega), if_neg (by omega), if_pos h]; simp [hc]
  rw [e]
  have hne := F.ne (by decide) kq
  have hsl := slot_i64 ok.sl
  have hsg := seg_i64 ok.sl
  have hgen : genP o = gW o.w := if_neg (by omega)
  refine (parkX_on hq Tryz.call200 (mt_aside r) kq (R := Rn p b r q 249 245 [.int .u8 6, .int .i64 (segF o.sl), .int .i64 1, .int .i64 1, .int .u64 o.n, .bool false] [.iface 229 (.pointer (some ⟨r, 0, none⟩)), .int .i64 o.sl, .int .u32 (genP o), .bool o.st] (csM M (adP (segF o.sl)) o.n (up64 o.n)) w) (E := [r]) (M := (csM M (adP (segF o.sl)) o.n (up64 o.n))) ((count_cas (t := 249) (x := (adP (segF o.sl))) (g := 1) hr (by decide) F hs (gg := 1) (v := (up64 o.n)) (by decide) (up_wrap o.n) (up_u64 o.n) (u := o.n) (by rw [ctc_P hsg]; exact kr) (c := true) hc).mono fun ee X hX => ⟨hX.1, .of kq F (by decide) hqr (by have := hX.2.1; rw [ctc_P hsg] at this; exact this) hX.2.2.1 hX.2.2.2⟩) (fun X hX => hX.use) (fun X hX => park_fresh (n := w.heap.size) hX.2.2.2.size hX.2.1.lt (pkB_aside hX.2.1 (seg_quo ok.sl) (seg_wrap ok.sl))) FreshX.set).mono ?_
  rintro ee w' ⟨rfl, t, z, ⟨rfl, r', rfl, h1, h2, h3⟩, h4, h5, h6⟩
  exact ⟨rfl, r', .inr ⟨_, _, _, .l5 rfl, (by rw [hgen] at h4; exact h4), h3⟩, h5, h6, .inr h1⟩
theorem pk4_no (_ : 1 < q) (hr : 1 < r) (hqr : q ≠ r) (F : VX p b M w) (hs : M.s.st < 1000000) (ok : PkNum o) (h : o.ln = 4) (hc : casV M.V (adP (segF o.sl)) o.n = false) (kq : Bq q 245 [.iface 229 (.pointer (some ⟨r, 0, none⟩)), .int .i64 o.sl, .int .u32 (genP o), .bool o.st] w) (kr : Bq r 249 [.int .u8 6, .int .i64 (segF o.sl), .int .i64 1, .int .i64 1, .int .u64 o.n, .bool true] w) :
    Calls Tryz.prog 195 #[.pointer (some ⟨q, 0, none⟩), .pointer (some ⟨p, 0, none⟩)] w (PkStepped p b q r (parkX o M) w) := by
  have e : parkX o M = ({ o with ln := 3 }, csM M (adP (segF o.sl)) o.n (up64 o.n)) := by unfold parkX; rw [if_neg (by omega), if_neg (by omega), if_neg (by omega), if_pos h]; simp [hc]
  rw [e]
  have hne := F.ne (by decide) kq
  have hsl := slot_i64 ok.sl
  have hsg := seg_i64 ok.sl
  have hgen : genP o = gW o.w := if_neg (by omega)
  refine (parkX_no Tryz.call200 (mt_aside r) kq (R := Rn p b r q 249 245 [.int .u8 6, .int .i64 (segF o.sl), .int .i64 1, .int .i64 1, .int .u64 o.n, .bool false] [.iface 229 (.pointer (some ⟨r, 0, none⟩)), .int .i64 o.sl, .int .u32 (genP o), .bool o.st] (csM M (adP (segF o.sl)) o.n (up64 o.n)) w) (E := [r]) (M := (csM M (adP (segF o.sl)) o.n (up64 o.n))) ((count_cas (t := 249) (x := (adP (segF o.sl))) (g := 1) hr (by decide) F hs (gg := 1) (v := (up64 o.n)) (by decide) (up_wrap o.n) (up_u64 o.n) (u := o.n) (by rw [ctc_P hsg]; exact kr) (c := false) hc).mono fun ee X hX => ⟨hX.1, .of kq F (by decide) hqr (by have := hX.2.1; rw [ctc_P hsg] at this; exact this) hX.2.2.1 hX.2.2.2⟩) (fun X hX => hX.use)).mono ?_
  rintro ee w' ⟨rfl, h1, h2, h3, h4⟩
  rw [hgen] at h2
  exact ⟨rfl, r, .inr ⟨_, _, _, .l3 o.n rfl, h2, h1⟩, h3, h4.more (by simp), .inl rfl⟩
theorem pk5_yes (hq : 1 < q) (hr : 1 < r) (hqr : q ≠ r) (F : VX p b M w) (hs : M.s.st < 1000000) (ok : PkNum o) (h : o.ln = 5) (hc : M.V (adG (segF o.sl)) = 1) (kq : Bq q 245 [.iface 211 (.pointer (some ⟨r, 0, none⟩)), .int .i64 o.sl, .int .u32 (genP o), .bool o.st] w) (kr : Bq r 213 [.int .u8 6, .int .i64 (segF o.sl), .int .i64 0, .int .u64 0] w) :
    Calls Tryz.prog 195 #[.pointer (some ⟨q, 0, none⟩), .pointer (some ⟨p, 0, none⟩)] w (PkStepped p b q r (parkX o M) w) := by
  have e : parkX o M = ({ o with ln := 6 }, ldM M (adG (segF o.sl))) := by unfold parkX; rw [if_neg (by omega), if_neg (by omega), if_neg (by omega), if_neg (by omega), if_pos h]; simp [hc]
  rw [e]
  have hne := F.ne (by decide) kq
  have hsl := slot_i64 ok.sl
  have hsg := seg_i64 ok.sl
  have hgen : genP o = gW o.w := if_neg (by omega)
  refine (parkX_on hq Tryz.call189 (mt_state r) kq (R := Rn p b r q 213 245 [.int .u8 6, .int .i64 (segF o.sl), .int .i64 0, .int .u64 (M.V (adG (segF o.sl)))] [.iface 211 (.pointer (some ⟨r, 0, none⟩)), .int .i64 o.sl, .int .u32 (genP o), .bool o.st] (ldM M (adG (segF o.sl))) w) (E := [r]) (M := (ldM M (adG (segF o.sl)))) ((loadLn_step (t := 213) (x := (adG (segF o.sl))) hr (by decide) F hs (by rw [ldc_G hsg]; exact kr)).mono fun ee X hX => ⟨hX.1, .of kq F (by decide) hqr (by have := hX.2.1; rw [ldc_G hsg] at this; exact this) hX.2.2.1 hX.2.2.2⟩) (fun X hX => hX.use) (fun X hX => park_fresh (n := w.heap.size) hX.2.2.2.size hX.2.1.lt (pkB_back hX.2.1 (seg_quo ok.sl) (seg_wrap ok.sl) hX.1 (by simpa using hc))) FreshX.set).mono ?_
  rintro ee w' ⟨rfl, t, z, ⟨rfl, r', rfl, h1, h2, h3⟩, h4, h5, h6⟩
  exact ⟨rfl, r', .inr ⟨_, _, _, .l6 0 rfl, (by rw [hgen] at h4; exact h4), h3⟩, h5, h6, .inr h1⟩
theorem pk5_no (hq : 1 < q) (hr : 1 < r) (hqr : q ≠ r) (F : VX p b M w) (hs : M.s.st < 1000000) (ok : PkNum o) (h : o.ln = 5) (hc : M.V (adG (segF o.sl)) ≠ 1) (kq : Bq q 245 [.iface 211 (.pointer (some ⟨r, 0, none⟩)), .int .i64 o.sl, .int .u32 (genP o), .bool o.st] w) (kr : Bq r 213 [.int .u8 6, .int .i64 (segF o.sl), .int .i64 0, .int .u64 0] w) :
    Calls Tryz.prog 195 #[.pointer (some ⟨q, 0, none⟩), .pointer (some ⟨p, 0, none⟩)] w (PkStepped p b q r (parkX o M) w) := by
  have e : parkX o M = ({ o with ln := 0, st := true }, ldM M (adG (segF o.sl))) := by unfold parkX; rw [if_neg (by omega), if_neg (by omega), if_neg (by omega), if_neg (by omega), if_pos h]; simp [hc]
  rw [e]
  have hne := F.ne (by decide) kq
  have hsl := slot_i64 ok.sl
  have hsg := seg_i64 ok.sl
  have hgen : genP o = gW o.w := if_neg (by omega)
  refine (parkX_end hq Tryz.call189 (mt_state r) kq (R := Rn p b r q 213 245 [.int .u8 6, .int .i64 (segF o.sl), .int .i64 0, .int .u64 (M.V (adG (segF o.sl)))] [.iface 211 (.pointer (some ⟨r, 0, none⟩)), .int .i64 o.sl, .int .u32 (genP o), .bool o.st] (ldM M (adG (segF o.sl))) w) (E := [r]) (M := (ldM M (adG (segF o.sl)))) ((loadLn_step (t := 213) (x := (adG (segF o.sl))) hr (by decide) F hs (by rw [ldc_G hsg]; exact kr)).mono fun ee X hX => ⟨hX.1, .of kq F (by decide) hqr (by have := hX.2.1; rw [ldc_G hsg] at this; exact this) hX.2.2.1 hX.2.2.2⟩) (fun X hX => hX.use) (fun X hX => pkB_stays hX.2.1 hX.1 (by simpa using hc))).mono ?_
  rintro ee w' ⟨rfl, h1, h2, h3⟩
  exact ⟨rfl, r, .inl ⟨rfl, _, _, h1⟩, h2, h3, .inl rfl⟩
theorem pk6 (_ : 1 < q) (hr : 1 < r) (hqr : q ≠ r) (F : VX p b M w) (hs : M.s.st < 1000000) (ok : PkNum o) (h : o.ln = 6) {x : Int} (kq : Bq q 245 [.iface 293 (.pointer (some ⟨r, 0, none⟩)), .int .i64 o.sl, .int .u32 (genP o), .bool o.st] w) (kr : Bq r 294 [.int .u8 6, .int .i64 (segF o.sl), .int .i64 1, .int .i64 (-1), .int .u64 x, .bool false] w) :
    Calls Tryz.prog 195 #[.pointer (some ⟨q, 0, none⟩), .pointer (some ⟨p, 0, none⟩)] w (PkStepped p b q r (parkX o M) w) := by
  have e : parkX o M = ({ o with ln := 7, n := (M.V (adP (segF o.sl))) }, ldM M (adP (segF o.sl))) := by unfold parkX; rw [if_neg (by omega), if_neg (by omega), if_neg (by omega), if_neg (by omega), if_neg (by omega), if_pos h]
  rw [e]
  have hne := F.ne (by decide) kq
  have hsl := slot_i64 ok.sl
  have hsg := seg_i64 ok.sl
  have hgen : genP o = gW o.w := if_neg (by omega)
  refine (parkX_no Tryz.call200 (mt_back r) kq (R := Rn p b r q 294 245 [.int .u8 6, .int .i64 (segF o.sl), .int .i64 1, .int .i64 (-1), .int .u64 (M.V (adP (segF o.sl))), .bool true] [.iface 293 (.pointer (some ⟨r, 0, none⟩)), .int .i64 o.sl, .int .u32 (genP o), .bool o.st] (ldM M (adP (segF o.sl))) w) (E := [r]) (M := (ldM M (adP (segF o.sl)))) ((count_load (t := 294) (x := (adP (segF o.sl))) (g := (-1)) hr (by decide) F hs (u := x) (by rw [ctc_P hsg]; exact kr)).mono fun ee X hX => ⟨hX.1, .of kq F (by decide) hqr (by have := hX.2.1; rw [ctc_P hsg] at this; exact this) hX.2.2.1 hX.2.2.2⟩) (fun X hX => hX.use)).mono ?_
  rintro ee w' ⟨rfl, h1, h2, h3, h4⟩
  rw [hgen] at h2
  exact ⟨rfl, r, .inr ⟨_, _, _, .l7 rfl, h2, h1⟩, h3, h4.more (by simp), .inl rfl⟩
theorem pk7_yes (hq : 1 < q) (hr : 1 < r) (hqr : q ≠ r) (F : VX p b M w) (hs : M.s.st < 1000000) (ok : PkNum o) (h : o.ln = 7) (hc : casV M.V (adP (segF o.sl)) o.n = true) (kq : Bq q 245 [.iface 293 (.pointer (some ⟨r, 0, none⟩)), .int .i64 o.sl, .int .u32 (genP o), .bool o.st] w) (kr : Bq r 294 [.int .u8 6, .int .i64 (segF o.sl), .int .i64 1, .int .i64 (-1), .int .u64 o.n, .bool true] w) :
    Calls Tryz.prog 195 #[.pointer (some ⟨q, 0, none⟩), .pointer (some ⟨p, 0, none⟩)] w (PkStepped p b q r (parkX o M) w) := by
  have e : parkX o M = ({ o with ln := 8 }, csM M (adP (segF o.sl)) o.n (down64 o.n)) := by unfold parkX; rw [if_neg (by omega), if_neg (by omega), if_neg (by omega), if_neg (by omega), if_neg (by omega), if_neg (by omega), if_pos h]; simp [hc]
  rw [e]
  have hne := F.ne (by decide) kq
  have hsl := slot_i64 ok.sl
  have hsg := seg_i64 ok.sl
  have hgen : genP o = gW o.w := if_neg (by omega)
  refine (parkX_on hq Tryz.call200 (mt_back r) kq (R := Rn p b r q 294 245 [.int .u8 6, .int .i64 (segF o.sl), .int .i64 1, .int .i64 (-1), .int .u64 o.n, .bool false] [.iface 293 (.pointer (some ⟨r, 0, none⟩)), .int .i64 o.sl, .int .u32 (genP o), .bool o.st] (csM M (adP (segF o.sl)) o.n (down64 o.n)) w) (E := [r]) (M := (csM M (adP (segF o.sl)) o.n (down64 o.n))) ((count_cas (t := 294) (x := (adP (segF o.sl))) (g := (-1)) hr (by decide) F hs (gg := 18446744073709551615) (v := (down64 o.n)) (by decide) (down_wrap o.n) (down_u64 o.n) (u := o.n) (by rw [ctc_P hsg]; exact kr) (c := true) hc).mono fun ee X hX => ⟨hX.1, .of kq F (by decide) hqr (by have := hX.2.1; rw [ctc_P hsg] at this; exact this) hX.2.2.1 hX.2.2.2⟩) (fun X hX => hX.use) (fun X hX => park_fresh (n := w.heap.size) hX.2.2.2.size hX.2.1.lt (pkB_still hX.2.1 (seg_quo ok.sl) (seg_wrap ok.sl))) FreshX.set).mono ?_
  rintro ee w' ⟨rfl, t, z, ⟨rfl, r', rfl, h1, h2, h3⟩, h4, h5, h6⟩
  exact ⟨rfl, r', .inr ⟨_, _, _, .l8 rfl, (by rw [hgen] at h4; exact h4), h3⟩, h5, h6, .inr h1⟩
theorem pk7_no (_ : 1 < q) (hr : 1 < r) (hqr : q ≠ r) (F : VX p b M w) (hs : M.s.st < 1000000) (ok : PkNum o) (h : o.ln = 7) (hc : casV M.V (adP (segF o.sl)) o.n = false) (kq : Bq q 245 [.iface 293 (.pointer (some ⟨r, 0, none⟩)), .int .i64 o.sl, .int .u32 (genP o), .bool o.st] w) (kr : Bq r 294 [.int .u8 6, .int .i64 (segF o.sl), .int .i64 1, .int .i64 (-1), .int .u64 o.n, .bool true] w) :
    Calls Tryz.prog 195 #[.pointer (some ⟨q, 0, none⟩), .pointer (some ⟨p, 0, none⟩)] w (PkStepped p b q r (parkX o M) w) := by
  have e : parkX o M = ({ o with ln := 6 }, csM M (adP (segF o.sl)) o.n (down64 o.n)) := by unfold parkX; rw [if_neg (by omega), if_neg (by omega), if_neg (by omega), if_neg (by omega), if_neg (by omega), if_neg (by omega), if_pos h]; simp [hc]
  rw [e]
  have hne := F.ne (by decide) kq
  have hsl := slot_i64 ok.sl
  have hsg := seg_i64 ok.sl
  have hgen : genP o = gW o.w := if_neg (by omega)
  refine (parkX_no Tryz.call200 (mt_back r) kq (R := Rn p b r q 294 245 [.int .u8 6, .int .i64 (segF o.sl), .int .i64 1, .int .i64 (-1), .int .u64 o.n, .bool false] [.iface 293 (.pointer (some ⟨r, 0, none⟩)), .int .i64 o.sl, .int .u32 (genP o), .bool o.st] (csM M (adP (segF o.sl)) o.n (down64 o.n)) w) (E := [r]) (M := (csM M (adP (segF o.sl)) o.n (down64 o.n))) ((count_cas (t := 294) (x := (adP (segF o.sl))) (g := (-1)) hr (by decide) F hs (gg := 18446744073709551615) (v := (down64 o.n)) (by decide) (down_wrap o.n) (down_u64 o.n) (u := o.n) (by rw [ctc_P hsg]; exact kr) (c := false) hc).mono fun ee X hX => ⟨hX.1, .of kq F (by decide) hqr (by have := hX.2.1; rw [ctc_P hsg] at this; exact this) hX.2.2.1 hX.2.2.2⟩) (fun X hX => hX.use)).mono ?_
  rintro ee w' ⟨rfl, h1, h2, h3, h4⟩
  rw [hgen] at h2
  exact ⟨rfl, r, .inr ⟨_, _, _, .l6 o.n rfl, h2, h1⟩, h3, h4.more (by simp), .inl rfl⟩
theorem pk8_yes (hq : 1 < q) (hr : 1 < r) (hqr : q ≠ r) (F : VX p b M w) (hs : M.s.st < 1000000) (ok : PkNum o) (h : o.ln = 8) (hc : M.V (adG (segF o.sl)) = 1) (kq : Bq q 245 [.iface 295 (.pointer (some ⟨r, 0, none⟩)), .int .i64 o.sl, .int .u32 (genP o), .bool o.st] w) (kr : Bq r 296 [.int .u8 6, .int .i64 (segF o.sl), .int .i64 0, .int .u64 0] w) :
    Calls Tryz.prog 195 #[.pointer (some ⟨q, 0, none⟩), .pointer (some ⟨p, 0, none⟩)] w (PkStepped p b q r (parkX o M) w) := by
  have e : parkX o M = ({ o with ln := 9 }, ldM M (adG (segF o.sl))) := by unfold parkX; rw [if_neg (by omega), if_neg (by omega), if_neg (by omega), if_neg (by omega), if_neg (by omega), if_neg (by omega), if_neg (by omega), if_pos h]; simp [hc]
  rw [e]
  have hne := F.ne (by decide) kq
  have hsl := slot_i64 ok.sl
  have hsg := seg_i64 ok.sl
  have hgen : genP o = gW o.w := if_neg (by omega)
  refine (parkX_on hq Tryz.call189 (mt_still r) kq (R := Rn p b r q 296 245 [.int .u8 6, .int .i64 (segF o.sl), .int .i64 0, .int .u64 (M.V (adG (segF o.sl)))] [.iface 295 (.pointer (some ⟨r, 0, none⟩)), .int .i64 o.sl, .int .u32 (genP o), .bool o.st] (ldM M (adG (segF o.sl))) w) (E := [r]) (M := (ldM M (adG (segF o.sl)))) ((loadLn_step (t := 296) (x := (adG (segF o.sl))) hr (by decide) F hs (by rw [ldc_G hsg]; exact kr)).mono fun ee X hX => ⟨hX.1, .of kq F (by decide) hqr (by have := hX.2.1; rw [ldc_G hsg] at this; exact this) hX.2.2.1 hX.2.2.2⟩) (fun X hX => hX.use) (fun X hX => park_fresh (n := w.heap.size) hX.2.2.2.size hX.2.1.lt (pkB_free hX.2.1 hX.2.2.1.lay (by rw [hgen]; exact gen_u64' o.w) hX.1 (by simpa using hc))) FreshX.set).mono ?_
  rintro ee w' ⟨rfl, t, z, ⟨rfl, r', rfl, h1, h2, h3⟩, h4, h5, h6⟩
  exact ⟨rfl, r', .inr ⟨_, _, _, .l9 rfl, (by rw [hgen] at h4; exact h4), (by rw [hgen] at h3; exact h3)⟩, h5, h6, .inr h1⟩
theorem pk8_no (hq : 1 < q) (hr : 1 < r) (hqr : q ≠ r) (F : VX p b M w) (hs : M.s.st < 1000000) (ok : PkNum o) (h : o.ln = 8) (hc : M.V (adG (segF o.sl)) ≠ 1) (kq : Bq q 245 [.iface 295 (.pointer (some ⟨r, 0, none⟩)), .int .i64 o.sl, .int .u32 (genP o), .bool o.st] w) (kr : Bq r 296 [.int .u8 6, .int .i64 (segF o.sl), .int .i64 0, .int .u64 0] w) :
    Calls Tryz.prog 195 #[.pointer (some ⟨q, 0, none⟩), .pointer (some ⟨p, 0, none⟩)] w (PkStepped p b q r (parkX o M) w) := by
  have e : parkX o M = ({ o with ln := 3 }, ldM M (adG (segF o.sl))) := by unfold parkX; rw [if_neg (by omega), if_neg (by omega), if_neg (by omega), if_neg (by omega), if_neg (by omega), if_neg (by omega), if_neg (by omega), if_pos h]; simp [hc]
  rw [e]
  have hne := F.ne (by decide) kq
  have hsl := slot_i64 ok.sl
  have hsg := seg_i64 ok.sl
  have hgen : genP o = gW o.w := if_neg (by omega)
  refine (parkX_on hq Tryz.call189 (mt_still r) kq (R := Rn p b r q 296 245 [.int .u8 6, .int .i64 (segF o.sl), .int .i64 0, .int .u64 (M.V (adG (segF o.sl)))] [.iface 295 (.pointer (some ⟨r, 0, none⟩)), .int .i64 o.sl, .int .u32 (genP o), .bool o.st] (ldM M (adG (segF o.sl))) w) (E := [r]) (M := (ldM M (adG (segF o.sl)))) ((loadLn_step (t := 296) (x := (adG (segF o.sl))) hr (by decide) F hs (by rw [ldc_G hsg]; exact kr)).mono fun ee X hX => ⟨hX.1, .of kq F (by decide) hqr (by have := hX.2.1; rw [ldc_G hsg] at this; exact this) hX.2.2.1 hX.2.2.2⟩) (fun X hX => hX.use) (fun X hX => park_fresh (n := w.heap.size) hX.2.2.2.size hX.2.1.lt (pkB_again hX.2.1 (seg_quo ok.sl) (seg_wrap ok.sl) hX.1 (by simpa using hc))) FreshX.set).mono ?_
  rintro ee w' ⟨rfl, t, z, ⟨rfl, r', rfl, h1, h2, h3⟩, h4, h5, h6⟩
  exact ⟨rfl, r', .inr ⟨_, _, _, .l3 0 rfl, (by rw [hgen] at h4; exact h4), h3⟩, h5, h6, .inr h1⟩
theorem pk9_yes (hq : 1 < q) (hr : 1 < r) (hqr : q ≠ r) (F : VX p b M w) (hs : M.s.st < 1000000) (ok : PkNum o) (h : o.ln = 9) (hc : casV M.V (adH o.sl) (headerW 3 (gW o.w)) = true) (kq : Bq q 245 [.iface 297 (.pointer (some ⟨r, 0, none⟩)), .int .i64 o.sl, .int .u32 (genP o), .bool o.st] w) (kr : Bq r 302 [.int .u8 9, .int .i64 o.sl, .int .i64 0, .int .u64 (headerW 3 (gW o.w)), .int .u64 (headerW 0 (gW o.w)), .bool false] w) :
    Calls Tryz.prog 195 #[.pointer (some ⟨q, 0, none⟩), .pointer (some ⟨p, 0, none⟩)] w (PkStepped p b q r (parkX o M) w) := by
  have e : parkX o M = ({ o with ln := 10 }, csM M (adH o.sl) (headerW 3 (gW o.w)) (headerW 0 (gW o.w))) := by unfold parkX; rw [if_neg (by omega), if_neg (by omega), if_neg (by omega), if_neg (by omega), if_neg (by omega), if_neg (by omega), if_neg (by omega), if_neg (by omega), if_pos h]; simp [hc]
  rw [e]
  have hne := F.ne (by decide) kq
  have hsl := slot_i64 ok.sl
  have hsg := seg_i64 ok.sl
  have hgen : genP o = gW o.w := if_neg (by omega)
  refine (parkX_on hq Tryz.call202 (mt_free r) kq (R := Rn p b r q 302 245 [.int .u8 9, .int .i64 o.sl, .int .i64 0, .int .u64 (headerW 3 (gW o.w)), .int .u64 (headerW 0 (gW o.w)), .bool true] [.iface 297 (.pointer (some ⟨r, 0, none⟩)), .int .i64 o.sl, .int .u32 (genP o), .bool o.st] (csM M (adH o.sl) (headerW 3 (gW o.w)) (headerW 0 (gW o.w))) w) (E := [r]) (M := (csM M (adH o.sl) (headerW 3 (gW o.w)) (headerW 0 (gW o.w)))) ((swapLn_step (t := 302) (x := (adH o.sl)) hr (by decide) F hs (hdrW_u64 o.w (by decide)) (by rw [swc_H hsl]; exact kr) (c := true) hc).mono fun ee X hX => ⟨hX.1, .of kq F (by decide) hqr (by have := hX.2.1; rw [swc_H hsl] at this; exact this) hX.2.2.1 hX.2.2.2⟩) (fun X hX => hX.use) (fun X hX => park_fresh (n := w.heap.size) hX.2.2.2.size hX.2.1.lt (pkB_push hX.2.1 ok.sl.1 ok.sl.2 hX.1)) FreshX.set).mono ?_
  rintro ee w' ⟨rfl, t, z, ⟨rfl, r', rfl, h1, h2, h3⟩, h4, h5, h6⟩
  exact ⟨rfl, r', .inr ⟨_, _, _, .l10 rfl, (by rw [hgen] at h4; exact h4), (by rw [ok.psh (by omega) (by omega)]; exact h3)⟩, h5, h6, .inr h1⟩
theorem pk9_no (hq : 1 < q) (hr : 1 < r) (hqr : q ≠ r) (F : VX p b M w) (hs : M.s.st < 1000000) (ok : PkNum o) (h : o.ln = 9) (hc : casV M.V (adH o.sl) (headerW 3 (gW o.w)) = false) (kq : Bq q 245 [.iface 297 (.pointer (some ⟨r, 0, none⟩)), .int .i64 o.sl, .int .u32 (genP o), .bool o.st] w) (kr : Bq r 302 [.int .u8 9, .int .i64 o.sl, .int .i64 0, .int .u64 (headerW 3 (gW o.w)), .int .u64 (headerW 0 (gW o.w)), .bool false] w) :
    Calls Tryz.prog 195 #[.pointer (some ⟨q, 0, none⟩), .pointer (some ⟨p, 0, none⟩)] w (PkStepped p b q r (parkX o M) w) := by
  have e : parkX o M = ({ o with ln := 11 }, csM M (adH o.sl) (headerW 3 (gW o.w)) (headerW 0 (gW o.w))) := by unfold parkX; rw [if_neg (by omega), if_neg (by omega), if_neg (by omega), if_neg (by omega), if_neg (by omega), if_neg (by omega), if_neg (by omega), if_neg (by omega), if_pos h]; simp [hc]
  rw [e]
  have hne := F.ne (by decide) kq
  have hsl := slot_i64 ok.sl
  have hsg := seg_i64 ok.sl
  have hgen : genP o = gW o.w := if_neg (by omega)
  refine (parkX_on hq Tryz.call202 (mt_free r) kq (R := Rn p b r q 302 245 [.int .u8 9, .int .i64 o.sl, .int .i64 0, .int .u64 (headerW 3 (gW o.w)), .int .u64 (headerW 0 (gW o.w)), .bool false] [.iface 297 (.pointer (some ⟨r, 0, none⟩)), .int .i64 o.sl, .int .u32 (genP o), .bool o.st] (csM M (adH o.sl) (headerW 3 (gW o.w)) (headerW 0 (gW o.w))) w) (E := [r]) (M := (csM M (adH o.sl) (headerW 3 (gW o.w)) (headerW 0 (gW o.w)))) ((swapLn_step (t := 302) (x := (adH o.sl)) hr (by decide) F hs (hdrW_u64 o.w (by decide)) (by rw [swc_H hsl]; exact kr) (c := false) hc).mono fun ee X hX => ⟨hX.1, .of kq F (by decide) hqr (by have := hX.2.1; rw [swc_H hsl] at this; exact this) hX.2.2.1 hX.2.2.2⟩) (fun X hX => hX.use) (fun X hX => park_fresh (n := w.heap.size) hX.2.2.2.size hX.2.1.lt (pkB_amend hX.2.1 (seg_quo ok.sl) (seg_wrap ok.sl) hX.1)) FreshX.set).mono ?_
  rintro ee w' ⟨rfl, t, z, ⟨rfl, r', rfl, h1, h2, h3⟩, h4, h5, h6⟩
  exact ⟨rfl, r', .inr ⟨_, _, _, .l11 0 rfl, (by rw [hgen] at h4; exact h4), h3⟩, h5, h6, .inr h1⟩
theorem pk10_yes (hq : 1 < q) (hr : 1 < r) (hqr : q ≠ r) (F : VX p b M w) (hs : M.s.st < 1000000) (ok : PkNum o) (h : o.ln = 10) (hc : (pushX o.psh M).1.nx = 0) (kq : Bq q 245 [.iface 152 (.pointer (some ⟨r, 0, none⟩)), .int .i64 o.sl, .int .u32 (genP o), .bool o.st] w) (kr : Bq r 198 [.int .i64 o.psh.nx, .int .u64 o.psh.h, .int .i64 o.psh.to] w) :
    Calls Tryz.prog 195 #[.pointer (some ⟨q, 0, none⟩), .pointer (some ⟨p, 0, none⟩)] w (PkStepped p b q r (parkX o M) w) := by
  have e : parkX o M = ({ o with ln := 0, psh := (pushX o.psh M).1 }, (pushX o.psh M).2) := by unfold parkX; rw [if_neg (by omega), if_neg (by omega), if_neg (by omega), if_neg (by omega), if_neg (by omega), if_neg (by omega), if_neg (by omega), if_neg (by omega), if_neg (by omega), if_pos h]; simp [hc]
  rw [e]
  have hne := F.ne (by decide) kq
  have hsl := slot_i64 ok.sl
  have hsg := seg_i64 ok.sl
  have hgen : genP o = gW o.w := if_neg (by omega)
  refine (parkX_end hq Tryz.call83 (mt_Push r) kq (R := Rn p b r q 198 245 [.int .i64 (pushX o.psh M).1.nx, .int .u64 (pushX o.psh M).1.h, .int .i64 (pushX o.psh M).1.to] [.iface 152 (.pointer (some ⟨r, 0, none⟩)), .int .i64 o.sl, .int .u32 (genP o), .bool o.st] (pushX o.psh M).2 w) (E := [r]) (M := (pushX o.psh M).2) ((push_stepX hr F hs (ok.pnx h).1 ⟨(ok.pnx h).2.1, (ok.pnx h).2.2.1⟩ (fun _ => by rw [(ok.pnx h).2.2.2]; exact hsl) kr).mono fun ee X hX => ⟨by rw [hX.1]; simp [hc], .of kq F (by decide) hqr hX.2.1 hX.2.2.1 (.of_only3 hX.2.2.2 (by simp))⟩) (fun X hX => hX.use) (fun X hX => pkB_pushed hX.2.1)).mono ?_
  rintro ee w' ⟨rfl, h1, h2, h3⟩
  exact ⟨rfl, r, .inl ⟨rfl, _, _, h1⟩, h2, h3, .inl rfl⟩
theorem pk10_no (_ : 1 < q) (hr : 1 < r) (hqr : q ≠ r) (F : VX p b M w) (hs : M.s.st < 1000000) (ok : PkNum o) (h : o.ln = 10) (hc : (pushX o.psh M).1.nx ≠ 0) (kq : Bq q 245 [.iface 152 (.pointer (some ⟨r, 0, none⟩)), .int .i64 o.sl, .int .u32 (genP o), .bool o.st] w) (kr : Bq r 198 [.int .i64 o.psh.nx, .int .u64 o.psh.h, .int .i64 o.psh.to] w) :
    Calls Tryz.prog 195 #[.pointer (some ⟨q, 0, none⟩), .pointer (some ⟨p, 0, none⟩)] w (PkStepped p b q r (parkX o M) w) := by
  have e : parkX o M = ({ o with ln := 10, psh := (pushX o.psh M).1 }, (pushX o.psh M).2) := by unfold parkX; rw [if_neg (by omega), if_neg (by omega), if_neg (by omega), if_neg (by omega), if_neg (by omega), if_neg (by omega), if_neg (by omega), if_neg (by omega), if_neg (by omega), if_pos h]; simp [hc]
  rw [e]
  have hne := F.ne (by decide) kq
  have hsl := slot_i64 ok.sl
  have hsg := seg_i64 ok.sl
  have hgen : genP o = gW o.w := if_neg (by omega)
  refine (parkX_no Tryz.call83 (mt_Push r) kq (R := Rn p b r q 198 245 [.int .i64 (pushX o.psh M).1.nx, .int .u64 (pushX o.psh M).1.h, .int .i64 (pushX o.psh M).1.to] [.iface 152 (.pointer (some ⟨r, 0, none⟩)), .int .i64 o.sl, .int .u32 (genP o), .bool o.st] (pushX o.psh M).2 w) (E := [r]) (M := (pushX o.psh M).2) ((push_stepX hr F hs (ok.pnx h).1 ⟨(ok.pnx h).2.1, (ok.pnx h).2.2.1⟩ (fun _ => by rw [(ok.pnx h).2.2.2]; exact hsl) kr).mono fun ee X hX => ⟨by rw [hX.1]; simp [hc], .of kq F (by decide) hqr hX.2.1 hX.2.2.1 (.of_only3 hX.2.2.2 (by simp))⟩) (fun X hX => hX.use)).mono ?_
  rintro ee w' ⟨rfl, h1, h2, h3, h4⟩
  rw [hgen] at h2
  exact ⟨rfl, r, .inr ⟨_, _, _, .l10 rfl, h2, h1⟩, h3, h4.more (by simp), .inl rfl⟩
theorem pk11 (_ : 1 < q) (hr : 1 < r) (hqr : q ≠ r) (F : VX p b M w) (hs : M.s.st < 1000000) (ok : PkNum o) (h : o.ln = 11) {x : Int} (kq : Bq q 245 [.iface 303 (.pointer (some ⟨r, 0, none⟩)), .int .i64 o.sl, .int .u32 (genP o), .bool o.st] w) (kr : Bq r 304 [.int .u8 6, .int .i64 (segF o.sl), .int .i64 1, .int .i64 1, .int .u64 x, .bool false] w) :
    Calls Tryz.prog 195 #[.pointer (some ⟨q, 0, none⟩), .pointer (some ⟨p, 0, none⟩)] w (PkStepped p b q r (parkX o M) w) := by
  have e : parkX o M = ({ o with ln := 12, n := (M.V (adP (segF o.sl))) }, ldM M (adP (segF o.sl))) := by unfold parkX; rw [if_neg (by omega), if_neg (by omega), if_neg (by omega), if_neg (by omega), if_neg (by omega), if_neg (by omega), if_neg (by omega), if_neg (by omega), if_neg (by omega), if_neg (by omega), if_pos h]
  rw [e]
  have hne := F.ne (by decide) kq
  have hsl := slot_i64 ok.sl
  have hsg := seg_i64 ok.sl
  have hgen : genP o = gW o.w := if_neg (by omega)
  refine (parkX_no Tryz.call200 (mt_amend r) kq (R := Rn p b r q 304 245 [.int .u8 6, .int .i64 (segF o.sl), .int .i64 1, .int .i64 1, .int .u64 (M.V (adP (segF o.sl))), .bool true] [.iface 303 (.pointer (some ⟨r, 0, none⟩)), .int .i64 o.sl, .int .u32 (genP o), .bool o.st] (ldM M (adP (segF o.sl))) w) (E := [r]) (M := (ldM M (adP (segF o.sl)))) ((count_load (t := 304) (x := (adP (segF o.sl))) (g := 1) hr (by decide) F hs (u := x) (by rw [ctc_P hsg]; exact kr)).mono fun ee X hX => ⟨hX.1, .of kq F (by decide) hqr (by have := hX.2.1; rw [ctc_P hsg] at this; exact this) hX.2.2.1 hX.2.2.2⟩) (fun X hX => hX.use)).mono ?_
  rintro ee w' ⟨rfl, h1, h2, h3, h4⟩
  rw [hgen] at h2
  exact ⟨rfl, r, .inr ⟨_, _, _, .l12 rfl, h2, h1⟩, h3, h4.more (by simp), .inl rfl⟩
theorem pk12_yes (hq : 1 < q) (hr : 1 < r) (hqr : q ≠ r) (F : VX p b M w) (hs : M.s.st < 1000000) (ok : PkNum o) (h : o.ln = 12) (hc : casV M.V (adP (segF o.sl)) o.n = true) (kq : Bq q 245 [.iface 303 (.pointer (some ⟨r, 0, none⟩)), .int .i64 o.sl, .int .u32 (genP o), .bool o.st] w) (kr : Bq r 304 [.int .u8 6, .int .i64 (segF o.sl), .int .i64 1, .int .i64 1, .int .u64 o.n, .bool true] w) :
    Calls Tryz.prog 195 #[.pointer (some ⟨q, 0, none⟩), .pointer (some ⟨p, 0, none⟩)] w (PkStepped p b q r (parkX o M) w) := by
  have e : parkX o M = ({ o with ln := 0 }, csM M (adP (segF o.sl)) o.n (up64 o.n)) := by unfold parkX; rw [if_neg (by omega), if_neg (by omega), if_neg (by omega), if_neg (by omega), if_neg (by omega), if_neg (by omega), if_neg (by omega), if_neg (by omega), if_neg (by omega), if_neg (by omega), if_neg (by omega), if_pos h]; simp [hc]
  rw [e]
  have hne := F.ne (by decide) kq
  have hsl := slot_i64 ok.sl
  have hsg := seg_i64 ok.sl
  have hgen : genP o = gW o.w := if_neg (by omega)
  refine (parkX_end hq Tryz.call200 (mt_amend r) kq (R := Rn p b r q 304 245 [.int .u8 6, .int .i64 (segF o.sl), .int .i64 1, .int .i64 1, .int .u64 o.n, .bool false] [.iface 303 (.pointer (some ⟨r, 0, none⟩)), .int .i64 o.sl, .int .u32 (genP o), .bool o.st] (csM M (adP (segF o.sl)) o.n (up64 o.n)) w) (E := [r]) (M := (csM M (adP (segF o.sl)) o.n (up64 o.n))) ((count_cas (t := 304) (x := (adP (segF o.sl))) (g := 1) hr (by decide) F hs (gg := 1) (v := (up64 o.n)) (by decide) (up_wrap o.n) (up_u64 o.n) (u := o.n) (by rw [ctc_P hsg]; exact kr) (c := true) hc).mono fun ee X hX => ⟨hX.1, .of kq F (by decide) hqr (by have := hX.2.1; rw [ctc_P hsg] at this; exact this) hX.2.2.1 hX.2.2.2⟩) (fun X hX => hX.use) (fun X hX => pkB_amended hX.2.1)).mono ?_
  rintro ee w' ⟨rfl, h1, h2, h3⟩
  exact ⟨rfl, r, .inl ⟨rfl, _, _, h1⟩, h2, h3, .inl rfl⟩
theorem pk12_no (_ : 1 < q) (hr : 1 < r) (hqr : q ≠ r) (F : VX p b M w) (hs : M.s.st < 1000000) (ok : PkNum o) (h : o.ln = 12) (hc : casV M.V (adP (segF o.sl)) o.n = false) (kq : Bq q 245 [.iface 303 (.pointer (some ⟨r, 0, none⟩)), .int .i64 o.sl, .int .u32 (genP o), .bool o.st] w) (kr : Bq r 304 [.int .u8 6, .int .i64 (segF o.sl), .int .i64 1, .int .i64 1, .int .u64 o.n, .bool true] w) :
    Calls Tryz.prog 195 #[.pointer (some ⟨q, 0, none⟩), .pointer (some ⟨p, 0, none⟩)] w (PkStepped p b q r (parkX o M) w) := by
  have e : parkX o M = ({ o with ln := 11 }, csM M (adP (segF o.sl)) o.n (up64 o.n)) := by unfold parkX; rw [if_neg (by omega), if_neg (by omega), if_neg (by omega), if_neg (by omega), if_neg (by omega), if_neg (by omega), if_neg (by omega), if_neg (by omega), if_neg (by omega), if_neg (by omega), if_neg (by omega), if_pos h]; simp [hc]
  rw [e]
  have hne := F.ne (by decide) kq
  have hsl := slot_i64 ok.sl
  have hsg := seg_i64 ok.sl
  have hgen : genP o = gW o.w := if_neg (by omega)
  refine (parkX_no Tryz.call200 (mt_amend r) kq (R := Rn p b r q 304 245 [.int .u8 6, .int .i64 (segF o.sl), .int .i64 1, .int .i64 1, .int .u64 o.n, .bool false] [.iface 303 (.pointer (some ⟨r, 0, none⟩)), .int .i64 o.sl, .int .u32 (genP o), .bool o.st] (csM M (adP (segF o.sl)) o.n (up64 o.n)) w) (E := [r]) (M := (csM M (adP (segF o.sl)) o.n (up64 o.n))) ((count_cas (t := 304) (x := (adP (segF o.sl))) (g := 1) hr (by decide) F hs (gg := 1) (v := (up64 o.n)) (by decide) (up_wrap o.n) (up_u64 o.n) (u := o.n) (by rw [ctc_P hsg]; exact kr) (c := false) hc).mono fun ee X hX => ⟨hX.1, .of kq F (by decide) hqr (by have := hX.2.1; rw [ctc_P hsg] at this; exact this) hX.2.2.1 hX.2.2.2⟩) (fun X hX => hX.use)).mono ?_
  rintro ee w' ⟨rfl, h1, h2, h3, h4⟩
  rw [hgen] at h2
  exact ⟨rfl, r, .inr ⟨_, _, _, .l11 o.n rfl, h2, h1⟩, h3, h4.more (by simp), .inl rfl⟩
theorem park_stepX (hq : 1 < q) (hr : 1 < r) (F : VX p b M w) (hs : M.s.st < 1000000) (ok : PkNum o) (P : PkX q r o w) :
    Calls Tryz.prog 195 #[.pointer (some ⟨q, 0, none⟩), .pointer (some ⟨p, 0, none⟩)] w (PkStepped p b q r (parkX o M) w) := by
  rcases P with ⟨h, s, g, k⟩ | ⟨pt, bt, cs, hp, kq, kr⟩
  · have e : parkX o M = (o, M) := by unfold parkX; rw [if_neg (by omega), if_neg (by omega), if_neg (by omega), if_neg (by omega), if_neg (by omega), if_neg (by omega), if_neg (by omega), if_neg (by omega), if_neg (by omega), if_neg (by omega), if_neg (by omega), if_neg (by omega)]
    rw [e]
    refine (stepPark_over _ k).mono ?_
    rintro ee w' ⟨rfl, rfl⟩
    exact ⟨by rw [h]; rfl, r, .inl ⟨h, s, g, k⟩, F, .refl _, .inl rfl⟩
  · have hqr : q ≠ r := kq.ne kr (Ne.symm hp.ne.1)
    cases hp with
    | l1 h => exact pk1 hq hr hqr F hs ok h kq kr
    | l2 h => exact pk2 hq hr hqr F hs ok h kq kr
    | l3 x h => exact pk3 hq hr hqr F hs ok h kq kr
    | l4 h =>
      by_cases hc : casV M.V (adP (segF o.sl)) o.n = true
      · exact pk4_yes hq hr hqr F hs ok h hc kq kr
      · exact pk4_no hq hr hqr F hs ok h (by simpa using hc) kq kr
    | l6 x h => exact pk6 hq hr hqr F hs ok h kq kr
    | l7 h =>
      by_cases hc : casV M.V (adP (segF o.sl)) o.n = true
      · exact pk7_yes hq hr hqr F hs ok h hc kq kr
      · exact pk7_no hq hr hqr F hs ok h (by simpa using hc) kq kr
    | l11 x h => exact pk11 hq hr hqr F hs ok h kq kr
    | l12 h =>
      by_cases hc : casV M.V (adP (segF o.sl)) o.n = true
      · exact pk12_yes hq hr hqr F hs ok h hc kq kr
      · exact pk12_no hq hr hqr F hs ok h (by simpa using hc) kq kr
    | l5 h =>
      by_cases hc : M.V (adG (segF o.sl)) = 1
      · exact pk5_yes hq hr hqr F hs ok h hc kq kr
      · exact pk5_no hq hr hqr F hs ok h hc kq kr
    | l8 h =>
      by_cases hc : M.V (adG (segF o.sl)) = 1
      · exact pk8_yes hq hr hqr F hs ok h hc kq kr
      · exact pk8_no hq hr hqr F hs ok h hc kq kr
    | l9 h =>
      by_cases hc : casV M.V (adH o.sl) (headerW 3 (gW o.w)) = true
      · exact pk9_yes hq hr hqr F hs ok h hc kq kr
      · exact pk9_no hq hr hqr F hs ok h (by simpa using hc) kq kr
    | l10 h =>
      by_cases hc : (pushX o.psh M).1.nx = 0
      · exact pk10_yes hq hr hqr F hs ok h hc kq kr
      · exact pk10_no hq hr hqr F hs ok h hc kq kr
end
end Go.Proofs.YtmjcbjcnmgleaaaGreatDoor
