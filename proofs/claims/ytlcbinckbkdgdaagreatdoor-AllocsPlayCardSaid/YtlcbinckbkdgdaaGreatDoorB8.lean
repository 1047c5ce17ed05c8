/-
  Package allocs: a step of an operation over the program's memory, by what its part's step and what is behind it leave; condition: which method the part's step is; the operation and the memory lie as they say.
  Package allocs: a Park in plain words, as it lies, and what its step does; condition: the Park and the memory lie as they say, numbers of their kinds.
  Package allocs: a Free in plain words, as it lies, and what its step does; condition: the Free and the memory lie as they say, numbers of their kinds.
  Package allocs: an Alloc in plain words, as it lies, and what its step does; condition: the Alloc and the memory lie as they say, numbers of their kinds.
-/
import Derived.Test.YtlcbinckbkdgdaaGreatDoorB6
import Derived.Test.YtlcbinckbkdgdaaGreatDoorAG1
import Derived.Test.YtlcbinckbkdgdaaGreatDoorBack
namespace Go.Proofs.YtlcbinckbkdgdaaGreatDoor
open Go.RowKit Go.Maps

theorem Only.onl {p b q : Nat} {E : List Nat} {X Y : World} (h : Only q q X Y) (hq : q ∈ E) : Onl p b E X Y := ⟨h.os, h.tape, h.output, h.size, fun k hk _ _ h3 => h.block k hk (fun e => h3 (e ▸ hq)) (fun e => h3 (e ▸ hq))⟩
theorem VX.onlyq {p b q : Nat} {M : MV} {X Y : World} (F : VX p b M X) (h : Only q q X Y) (hp : q ≠ p) (hb : q ≠ b) (hq : 1 < q) : VX p b M Y :=
  F.keep h.size (h.block p F.lt.1 (Ne.symm hp) (Ne.symm hp)) (h.block b F.lt.2 (Ne.symm hb) (Ne.symm hb)) (h.block _ F.lay.1 (by omega) (by omega)) (h.block _ F.laym.1 (by omega) (by omega))
/-- What is new behind a part: a block of its own. -/
def FreshX (q n : Nat) (pt bt : TypeId) (cs : List Value) (t : TypeId) (z : Value) (X : World) : Prop := t = pt ∧ ∃ r, z = .pointer (some ⟨r, 0, none⟩) ∧ n ≤ r ∧ r ≠ q ∧ Bq r bt cs X
theorem FreshX.set {q n : Nat} {pt bt : TypeId} {cs : List Value} (t : TypeId) (z : Value) (X : World) (v : Value) (h : FreshX q n pt bt cs t z X) : FreshX q n pt bt cs t z (X.setCell ⟨q, 0, none⟩ v) := by
  obtain ⟨h1, r, h2, h3, h4, h5⟩ := h
  exact ⟨h1, r, h2, h3, h4, h5.setO h4 0 v⟩
section
variable {p b q : Nat} {E : List Nat} {pt : TypeId} {f : FuncId} {rv v1 v2 v3 v4 u1 u2 u3 u4 : Value} {M : MV} {w : World} {R : World → Prop} {S : TypeId → Value → World → Prop}
theorem parkX_no (he : ∀ args X, (callFunc f args).run Tryz.prog X = .ok (.enter f args) X) (hm : ∀ X, (method (358) pt rv "Step").run Tryz.prog X = .ok (f, rv) X) (k : Bq q 94 [.iface pt rv, v1, v2, v3] w)
    (hs : Calls Tryz.prog f #[rv, .pointer (some ⟨p, 0, none⟩)] w fun e w1 => e = .returned (.bool false) ∧ R w1) (hR : ∀ w1, R w1 → Bq q 94 [.iface pt rv, v1, v2, v3] w1 ∧ VX p b M w1 ∧ Onl p b E w w1) :
    Calls Tryz.prog 36 #[.pointer (some ⟨q, 0, none⟩), .pointer (some ⟨p, 0, none⟩)] w fun e w' => e = .returned (.bool false) ∧ R w' :=
  parkStep_no he hm k hs (fun w1 h => (hR w1 h).1)
theorem parkX_on (hq : 1 < q) (he : ∀ args X, (callFunc f args).run Tryz.prog X = .ok (.enter f args) X) (hm : ∀ X, (method (358) pt rv "Step").run Tryz.prog X = .ok (f, rv) X) (k : Bq q 94 [.iface pt rv, v1, v2, v3] w)
    (hs : Calls Tryz.prog f #[rv, .pointer (some ⟨p, 0, none⟩)] w fun e w1 => e = .returned (.bool true) ∧ R w1) (hR : ∀ w1, R w1 → Bq q 94 [.iface pt rv, v1, v2, v3] w1 ∧ VX p b M w1 ∧ Onl p b E w w1)
    (hB : ∀ w1, R w1 → Calls Tryz.prog 61 #[.pointer (some ⟨q, 0, none⟩)] w1 fun e w2 => ∃ t z, e = .returned (.iface t z) ∧ S t z w2 ∧ Bq q 94 [.iface pt rv, u1, u2, u3] w2 ∧ Only q q w1 w2)
    (hS : ∀ t z X v, S t z X → S t z (X.setCell ⟨q, 0, none⟩ v)) :
    Calls Tryz.prog 36 #[.pointer (some ⟨q, 0, none⟩), .pointer (some ⟨p, 0, none⟩)] w fun e w' => e = .returned (.bool false) ∧ ∃ t z, S t z w' ∧ Bq q 94 [.iface t z, u1, u2, u3] w' ∧ VX p b M w' ∧ Onl p b (q :: E) w w' := by
  refine (parkStep_on (R := R) (S := fun z X => ∃ t y, z = .iface t y ∧ S t y X ∧ Bq q 94 [.iface pt rv, u1, u2, u3] X ∧ VX p b M X ∧ Onl p b (q :: E) w X) he hm k hs ?_ ?_).mono ?_
  · intro w1 h1
    obtain ⟨k1, F1, O1⟩ := hR w1 h1
    have hne := F1.ne (by decide) k1
    refine (hB w1 h1).mono ?_
    rintro e w2 ⟨t, z, rfl, h2, h3, h4⟩
    exact ⟨t, z, rfl, t, z, rfl, h2, h3, F1.onlyq h4 hne.1 hne.2 hq, (O1.more (fun x hx => List.mem_cons_of_mem _ hx)).trans (h4.onl (List.mem_cons_self ..))⟩
  · rintro z X ⟨t, y, _, _, h3, _⟩
    exact ⟨_, _, _, h3⟩
  · rintro e w' ⟨t, z, X, ⟨t', y, hz, h2, h3, h4, h5⟩, rfl, rfl⟩
    cases hz
    have hne := h4.ne (by decide) h3
    exact ⟨rfl, t, z, hS _ _ _ _ h2, h3.set 0 _ rfl, h4.setQ hne.1 hne.2 hq 0 _, h5.trans (.setCell _ (List.mem_cons_self ..) 0 _)⟩
theorem parkX_end (hq : 1 < q) (he : ∀ args X, (callFunc f args).run Tryz.prog X = .ok (.enter f args) X) (hm : ∀ X, (method (358) pt rv "Step").run Tryz.prog X = .ok (f, rv) X) (k : Bq q 94 [.iface pt rv, v1, v2, v3] w)
    (hs : Calls Tryz.prog f #[rv, .pointer (some ⟨p, 0, none⟩)] w fun e w1 => e = .returned (.bool true) ∧ R w1) (hR : ∀ w1, R w1 → Bq q 94 [.iface pt rv, v1, v2, v3] w1 ∧ VX p b M w1 ∧ Onl p b E w w1)
    (hB : ∀ w1, R w1 → Calls Tryz.prog 61 #[.pointer (some ⟨q, 0, none⟩)] w1 fun e w2 => e = .returned .nilIface ∧ Bq q 94 [.iface pt rv, u1, u2, u3] w2 ∧ Only q q w1 w2) :
    Calls Tryz.prog 36 #[.pointer (some ⟨q, 0, none⟩), .pointer (some ⟨p, 0, none⟩)] w fun e w' => e = .returned (.bool true) ∧ Bq q 94 [.nilIface, u1, u2, u3] w' ∧ VX p b M w' ∧ Onl p b (q :: E) w w' := by
  refine (parkStep_end (R := R) (S := fun z X => Bq q 94 [.iface pt rv, u1, u2, u3] X ∧ VX p b M X ∧ Onl p b (q :: E) w X) he hm k hs ?_ ?_).mono ?_
  · intro w1 h1
    obtain ⟨k1, F1, O1⟩ := hR w1 h1
    have hne := F1.ne (by decide) k1
    refine (hB w1 h1).mono ?_
    rintro e w2 ⟨rfl, h3, h4⟩
    exact ⟨rfl, h3, F1.onlyq h4 hne.1 hne.2 hq, (O1.more (fun x hx => List.mem_cons_of_mem _ hx)).trans (h4.onl (List.mem_cons_self ..))⟩
  · rintro z X ⟨h3, _⟩
    exact ⟨_, _, _, h3⟩
  · rintro e w' ⟨X, ⟨h3, h4, h5⟩, rfl, rfl⟩
    have hne := h4.ne (by decide) h3
    exact ⟨rfl, h3.set 0 _ rfl, h4.setQ hne.1 hne.2 hq 0 _, h5.trans (.setCell _ (List.mem_cons_self ..) 0 _)⟩
/-- What is behind, as a new block. -/
theorem park_fresh {pt' bt' : TypeId} {part : List Value} {n : Nat} {w1 : World} (hn : n ≤ w1.heap.size) (hqw : q < w1.heap.size) (h : Calls Tryz.prog 61 #[.pointer (some ⟨q, 0, none⟩)] w1 (Behind 94 pt' bt' q [.iface pt rv, u1, u2, u3] part w1)) :
    Calls Tryz.prog 61 #[.pointer (some ⟨q, 0, none⟩)] w1 fun e w2 => ∃ t z, e = .returned (.iface t z) ∧ FreshX q n pt' bt' part t z w2 ∧ Bq q 94 [.iface pt rv, u1, u2, u3] w2 ∧ Only q q w1 w2 := by
  refine h.mono ?_
  rintro e w2 ⟨r, rfl, h1, h2, h3, h4⟩
  exact ⟨_, _, rfl, ⟨rfl, r, rfl, Nat.le_trans hn h1, by omega, h2⟩, h3, h4⟩
theorem freeX_no (he : ∀ args X, (callFunc f args).run Tryz.prog X = .ok (.enter f args) X) (hm : ∀ X, (method (358) pt rv "Step").run Tryz.prog X = .ok (f, rv) X) (k : Bq q 88 [.iface pt rv, v1, v2, v3] w)
    (hs : Calls Tryz.prog f #[rv, .pointer (some ⟨p, 0, none⟩)] w fun e w1 => e = .returned (.bool false) ∧ R w1) (hR : ∀ w1, R w1 → Bq q 88 [.iface pt rv, v1, v2, v3] w1 ∧ VX p b M w1 ∧ Onl p b E w w1) :
    Calls Tryz.prog 20 #[.pointer (some ⟨q, 0, none⟩), .pointer (some ⟨p, 0, none⟩)] w fun e w' => e = .returned (.bool false) ∧ R w' :=
  freeStep_no he hm k hs (fun w1 h => (hR w1 h).1)
theorem freeX_on (hq : 1 < q) (he : ∀ args X, (callFunc f args).run Tryz.prog X = .ok (.enter f args) X) (hm : ∀ X, (method (358) pt rv "Step").run Tryz.prog X = .ok (f, rv) X) (k : Bq q 88 [.iface pt rv, v1, v2, v3] w)
    (hs : Calls Tryz.prog f #[rv, .pointer (some ⟨p, 0, none⟩)] w fun e w1 => e = .returned (.bool true) ∧ R w1) (hR : ∀ w1, R w1 → Bq q 88 [.iface pt rv, v1, v2, v3] w1 ∧ VX p b M w1 ∧ Onl p b E w w1)
    (hB : ∀ w1, R w1 → Calls Tryz.prog 48 #[.pointer (some ⟨q, 0, none⟩)] w1 fun e w2 => ∃ t z, e = .returned (.iface t z) ∧ S t z w2 ∧ Bq q 88 [.iface pt rv, u1, u2, u3] w2 ∧ Only q q w1 w2)
    (hS : ∀ t z X v, S t z X → S t z (X.setCell ⟨q, 0, none⟩ v)) :
    Calls Tryz.prog 20 #[.pointer (some ⟨q, 0, none⟩), .pointer (some ⟨p, 0, none⟩)] w fun e w' => e = .returned (.bool false) ∧ ∃ t z, S t z w' ∧ Bq q 88 [.iface t z, u1, u2, u3] w' ∧ VX p b M w' ∧ Onl p b (q :: E) w w' := by
  refine (freeStep_on (R := R) (S := fun z X => ∃ t y, z = .iface t y ∧ S t y X ∧ Bq q 88 [.iface pt rv, u1, u2, u3] X ∧ VX p b M X ∧ Onl p b (q :: E) w X) he hm k hs ?_ ?_).mono ?_
  · intro w1 h1
    obtain ⟨k1, F1, O1⟩ := hR w1 h1
    have hne := F1.ne (by decide) k1
    refine (hB w1 h1).mono ?_
    rintro e w2 ⟨t, z, rfl, h2, h3, h4⟩
    exact ⟨t, z, rfl, t, z, rfl, h2, h3, F1.onlyq h4 hne.1 hne.2 hq, (O1.more (fun x hx => List.mem_cons_of_mem _ hx)).trans (h4.onl (List.mem_cons_self ..))⟩
  · rintro z X ⟨t, y, _, _, h3, _⟩
    exact ⟨_, _, _, h3⟩
  · rintro e w' ⟨t, z, X, ⟨t', y, hz, h2, h3, h4, h5⟩, rfl, rfl⟩
    cases hz
    have hne := h4.ne (by decide) h3
    exact ⟨rfl, t, z, hS _ _ _ _ h2, h3.set 0 _ rfl, h4.setQ hne.1 hne.2 hq 0 _, h5.trans (.setCell _ (List.mem_cons_self ..) 0 _)⟩
theorem freeX_end (hq : 1 < q) (he : ∀ args X, (callFunc f args).run Tryz.prog X = .ok (.enter f args) X) (hm : ∀ X, (method (358) pt rv "Step").run Tryz.prog X = .ok (f, rv) X) (k : Bq q 88 [.iface pt rv, v1, v2, v3] w)
    (hs : Calls Tryz.prog f #[rv, .pointer (some ⟨p, 0, none⟩)] w fun e w1 => e = .returned (.bool true) ∧ R w1) (hR : ∀ w1, R w1 → Bq q 88 [.iface pt rv, v1, v2, v3] w1 ∧ VX p b M w1 ∧ Onl p b E w w1)
    (hB : ∀ w1, R w1 → Calls Tryz.prog 48 #[.pointer (some ⟨q, 0, none⟩)] w1 fun e w2 => e = .returned .nilIface ∧ Bq q 88 [.iface pt rv, u1, u2, u3] w2 ∧ Only q q w1 w2) :
    Calls Tryz.prog 20 #[.pointer (some ⟨q, 0, none⟩), .pointer (some ⟨p, 0, none⟩)] w fun e w' => e = .returned (.bool true) ∧ Bq q 88 [.nilIface, u1, u2, u3] w' ∧ VX p b M w' ∧ Onl p b (q :: E) w w' := by
  refine (freeStep_end (R := R) (S := fun z X => Bq q 88 [.iface pt rv, u1, u2, u3] X ∧ VX p b M X ∧ Onl p b (q :: E) w X) he hm k hs ?_ ?_).mono ?_
  · intro w1 h1
    obtain ⟨k1, F1, O1⟩ := hR w1 h1
    have hne := F1.ne (by decide) k1
    refine (hB w1 h1).mono ?_
    rintro e w2 ⟨rfl, h3, h4⟩
    exact ⟨rfl, h3, F1.onlyq h4 hne.1 hne.2 hq, (O1.more (fun x hx => List.mem_cons_of_mem _ hx)).trans (h4.onl (List.mem_cons_self ..))⟩
  · rintro z X ⟨h3, _⟩
    exact ⟨_, _, _, h3⟩
  · rintro e w' ⟨X, ⟨h3, h4, h5⟩, rfl, rfl⟩
    have hne := h4.ne (by decide) h3
    exact ⟨rfl, h3.set 0 _ rfl, h4.setQ hne.1 hne.2 hq 0 _, h5.trans (.setCell _ (List.mem_cons_self ..) 0 _)⟩
/-- What is behind, as a new block. -/
theorem free_fresh {pt' bt' : TypeId} {part : List Value} {n : Nat} {w1 : World} (hn : n ≤ w1.heap.size) (hqw : q < w1.heap.size) (h : Calls Tryz.prog 48 #[.pointer (some ⟨q, 0, none⟩)] w1 (Behind 88 pt' bt' q [.iface pt rv, u1, u2, u3] part w1)) :
    Calls Tryz.prog 48 #[.pointer (some ⟨q, 0, none⟩)] w1 fun e w2 => ∃ t z, e = .returned (.iface t z) ∧ FreshX q n pt' bt' part t z w2 ∧ Bq q 88 [.iface pt rv, u1, u2, u3] w2 ∧ Only q q w1 w2 := by
  refine h.mono ?_
  rintro e w2 ⟨r, rfl, h1, h2, h3, h4⟩
  exact ⟨_, _, rfl, ⟨rfl, r, rfl, Nat.le_trans hn h1, by omega, h2⟩, h3, h4⟩
theorem allocX_no (he : ∀ args X, (callFunc f args).run Tryz.prog X = .ok (.enter f args) X) (hm : ∀ X, (method (358) pt rv "Step").run Tryz.prog X = .ok (f, rv) X) (k : Bq q 80 [.iface pt rv, v1, v2, v3, v4] w)
    (hs : Calls Tryz.prog f #[rv, .pointer (some ⟨p, 0, none⟩)] w fun e w1 => e = .returned (.bool false) ∧ R w1) (hR : ∀ w1, R w1 → Bq q 80 [.iface pt rv, v1, v2, v3, v4] w1 ∧ VX p b M w1 ∧ Onl p b E w w1) :
    Calls Tryz.prog 30 #[.pointer (some ⟨q, 0, none⟩), .pointer (some ⟨p, 0, none⟩)] w fun e w' => e = .returned (.bool false) ∧ R w' :=
  allocStep_no he hm k hs (fun w1 h => (hR w1 h).1)
theorem allocX_on (hq : 1 < q) (he : ∀ args X, (callFunc f args).run Tryz.prog X = .ok (.enter f args) X) (hm : ∀ X, (method (358) pt rv "Step").run Tryz.prog X = .ok (f, rv) X) (k : Bq q 80 [.iface pt rv, v1, v2, v3, v4] w)
    (hs : Calls Tryz.prog f #[rv, .pointer (some ⟨p, 0, none⟩)] w fun e w1 => e = .returned (.bool true) ∧ R w1) (hR : ∀ w1, R w1 → Bq q 80 [.iface pt rv, v1, v2, v3, v4] w1 ∧ VX p b M w1 ∧ Onl p b E w w1)
    (hB : ∀ w1, R w1 → Calls Tryz.prog 58 #[.pointer (some ⟨q, 0, none⟩)] w1 fun e w2 => ∃ t z, e = .returned (.iface t z) ∧ S t z w2 ∧ Bq q 80 [.iface pt rv, u1, u2, u3, u4] w2 ∧ Only q q w1 w2)
    (hS : ∀ t z X v, S t z X → S t z (X.setCell ⟨q, 0, none⟩ v)) :
    Calls Tryz.prog 30 #[.pointer (some ⟨q, 0, none⟩), .pointer (some ⟨p, 0, none⟩)] w fun e w' => e = .returned (.bool false) ∧ ∃ t z, S t z w' ∧ Bq q 80 [.iface t z, u1, u2, u3, u4] w' ∧ VX p b M w' ∧ Onl p b (q :: E) w w' := by
  refine (allocStep_on (R := R) (S := fun z X => ∃ t y, z = .iface t y ∧ S t y X ∧ Bq q 80 [.iface pt rv, u1, u2, u3, u4] X ∧ VX p b M X ∧ Onl p b (q :: E) w X) he hm k hs ?_ ?_).mono ?_
  · intro w1 h1
    obtain ⟨k1, F1, O1⟩ := hR w1 h1
    have hne := F1.ne (by decide) k1
    refine (hB w1 h1).mono ?_
    rintro e w2 ⟨t, z, rfl, h2, h3, h4⟩
    exact ⟨t, z, rfl, t, z, rfl, h2, h3, F1.onlyq h4 hne.1 hne.2 hq, (O1.more (fun x hx => List.mem_cons_of_mem _ hx)).trans (h4.onl (List.mem_cons_self ..))⟩
  · rintro z X ⟨t, y, _, _, h3, _⟩
    exact ⟨_, _, _, _, h3⟩
  · rintro e w' ⟨t, z, X, ⟨t', y, hz, h2, h3, h4, h5⟩, rfl, rfl⟩
    cases hz
    have hne := h4.ne (by decide) h3
    exact ⟨rfl, t, z, hS _ _ _ _ h2, h3.set 0 _ rfl, h4.setQ hne.1 hne.2 hq 0 _, h5.trans (.setCell _ (List.mem_cons_self ..) 0 _)⟩
theorem allocX_end (hq : 1 < q) (he : ∀ args X, (callFunc f args).run Tryz.prog X = .ok (.enter f args) X) (hm : ∀ X, (method (358) pt rv "Step").run Tryz.prog X = .ok (f, rv) X) (k : Bq q 80 [.iface pt rv, v1, v2, v3, v4] w)
    (hs : Calls Tryz.prog f #[rv, .pointer (some ⟨p, 0, none⟩)] w fun e w1 => e = .returned (.bool true) ∧ R w1) (hR : ∀ w1, R w1 → Bq q 80 [.iface pt rv, v1, v2, v3, v4] w1 ∧ VX p b M w1 ∧ Onl p b E w w1)
    (hB : ∀ w1, R w1 → Calls Tryz.prog 58 #[.pointer (some ⟨q, 0, none⟩)] w1 fun e w2 => e = .returned .nilIface ∧ Bq q 80 [.iface pt rv, u1, u2, u3, u4] w2 ∧ Only q q w1 w2) :
    Calls Tryz.prog 30 #[.pointer (some ⟨q, 0, none⟩), .pointer (some ⟨p, 0, none⟩)] w fun e w' => e = .returned (.bool true) ∧ Bq q 80 [.nilIface, u1, u2, u3, u4] w' ∧ VX p b M w' ∧ Onl p b (q :: E) w w' := by
  refine (allocStep_end (R := R) (S := fun z X => Bq q 80 [.iface pt rv, u1, u2, u3, u4] X ∧ VX p b M X ∧ Onl p b (q :: E) w X) he hm k hs ?_ ?_).mono ?_
  · intro w1 h1
    obtain ⟨k1, F1, O1⟩ := hR w1 h1
    have hne := F1.ne (by decide) k1
    refine (hB w1 h1).mono ?_
    rintro e w2 ⟨rfl, h3, h4⟩
    exact ⟨rfl, h3, F1.onlyq h4 hne.1 hne.2 hq, (O1.more (fun x hx => List.mem_cons_of_mem _ hx)).trans (h4.onl (List.mem_cons_self ..))⟩
  · rintro z X ⟨h3, _⟩
    exact ⟨_, _, _, _, h3⟩
  · rintro e w' ⟨X, ⟨h3, h4, h5⟩, rfl, rfl⟩
    have hne := h4.ne (by decide) h3
    exact ⟨rfl, h3.set 0 _ rfl, h4.setQ hne.1 hne.2 hq 0 _, h5.trans (.setCell _ (List.mem_cons_self ..) 0 _)⟩
/-- What is behind, as a new block. -/
theorem alloc_fresh {pt' bt' : TypeId} {part : List Value} {n : Nat} {w1 : World} (hn : n ≤ w1.heap.size) (hqw : q < w1.heap.size) (h : Calls Tryz.prog 58 #[.pointer (some ⟨q, 0, none⟩)] w1 (Behind 80 pt' bt' q [.iface pt rv, u1, u2, u3, u4] part w1)) :
    Calls Tryz.prog 58 #[.pointer (some ⟨q, 0, none⟩)] w1 fun e w2 => ∃ t z, e = .returned (.iface t z) ∧ FreshX q n pt' bt' part t z w2 ∧ Bq q 80 [.iface pt rv, u1, u2, u3, u4] w2 ∧ Only q q w1 w2 := by
  refine h.mono ?_
  rintro e w2 ⟨r, rfl, h1, h2, h3, h4⟩
  exact ⟨_, _, rfl, ⟨rfl, r, rfl, Nat.le_trans hn h1, by omega, h2⟩, h3, h4⟩
end
end Go.Proofs.YtlcbinckbkdgdaaGreatDoor
namespace Go.Proofs.YtlcbinckbkdgdaaGreatDoor
open Go.RowKit Go.Maps

/-- Addresses: a slot's header and birth, a segment's state and how many it has put aside, the era. -/
def adH (s : Int) : Ad := if h : (Lit.int .i64 s).wf = true then ⟨9, s, 0, by decide, h, by decide⟩ else adF
def adB (s : Int) : Ad := if h : (Lit.int .i64 s).wf = true then ⟨9, s, 1, by decide, h, by decide⟩ else adF
def adG (s : Int) : Ad := if h : (Lit.int .i64 s).wf = true then ⟨6, s, 0, by decide, h, by decide⟩ else adF
def adP (s : Int) : Ad := if h : (Lit.int .i64 s).wf = true then ⟨6, s, 1, by decide, h, by decide⟩ else adF
def adEr : Ad := ⟨2, 0, 0, by decide, by decide, by decide⟩
theorem adH_at {s : Int} (h : I64w s) : (adH s).k = 9 ∧ (adH s).a = s ∧ (adH s).f = 0 := by unfold adH; rw [dif_pos (show (Lit.int .i64 s).wf = true from h)]; exact ⟨rfl, rfl, rfl⟩
theorem adB_at {s : Int} (h : I64w s) : (adB s).k = 9 ∧ (adB s).a = s ∧ (adB s).f = 1 := by unfold adB; rw [dif_pos (show (Lit.int .i64 s).wf = true from h)]; exact ⟨rfl, rfl, rfl⟩
theorem adG_at {s : Int} (h : I64w s) : (adG s).k = 6 ∧ (adG s).a = s ∧ (adG s).f = 0 := by unfold adG; rw [dif_pos (show (Lit.int .i64 s).wf = true from h)]; exact ⟨rfl, rfl, rfl⟩
theorem adP_at {s : Int} (h : I64w s) : (adP s).k = 6 ∧ (adP s).a = s ∧ (adP s).f = 1 := by unfold adP; rw [dif_pos (show (Lit.int .i64 s).wf = true from h)]; exact ⟨rfl, rfl, rfl⟩
theorem ldc_H {s : Int} (h : I64w s) (v : Int) : LdC (adH s) v = [.int .u8 9, .int .i64 s, .int .i64 0, .int .u64 v] := by unfold LdC; rw [(adH_at h).1, (adH_at h).2.1, (adH_at h).2.2]
theorem ldc_B {s : Int} (h : I64w s) (v : Int) : LdC (adB s) v = [.int .u8 9, .int .i64 s, .int .i64 1, .int .u64 v] := by unfold LdC; rw [(adB_at h).1, (adB_at h).2.1, (adB_at h).2.2]
theorem ldc_G {s : Int} (h : I64w s) (v : Int) : LdC (adG s) v = [.int .u8 6, .int .i64 s, .int .i64 0, .int .u64 v] := by unfold LdC; rw [(adG_at h).1, (adG_at h).2.1, (adG_at h).2.2]
theorem ctc_P {s : Int} (h : I64w s) (g v : Int) (d : Bool) : CtC (adP s) g v d = [.int .u8 6, .int .i64 s, .int .i64 1, .int .i64 g, .int .u64 v, .bool d] := by unfold CtC; rw [(adP_at h).1, (adP_at h).2.1, (adP_at h).2.2]
theorem swc_H {s : Int} (h : I64w s) (u v : Int) (d : Bool) : SwC (adH s) u v d = [.int .u8 9, .int .i64 s, .int .i64 0, .int .u64 u, .int .u64 v, .bool d] := by unfold SwC; rw [(adH_at h).1, (adH_at h).2.1, (adH_at h).2.2]
theorem slot_i64 {s : Int} (h : 0 ≤ s ∧ s < 256) : I64w s := i64w_in (by omega) (by omega)
theorem seg_i64 {s : Int} (h : 0 ≤ s ∧ s < 256) : I64w (segF s) := i64w_in (by unfold segF; omega) (by unfold segF; omega)
theorem seg_quo {s : Int} (h : 0 ≤ s ∧ s < 256) : Int.tdiv s 8 = segF s := Int.tdiv_eq_ediv_of_nonneg h.1
theorem seg_wrap {s : Int} (h : 0 ≤ s ∧ s < 256) : IntKind.i64.wrap (segF s) = segF s := by
  unfold segF
  simp [IntKind.wrap, IntKind.bits, IntKind.signed]
  omega
theorem up_wrap (n : Int) : IntKind.u64.wrap (n + 1) = up64 n := by rw [IntKind.wrap_u64]; rfl
theorem down_wrap (n : Int) : IntKind.u64.wrap (n + 18446744073709551615) = down64 n := by rw [IntKind.wrap_u64]; unfold down64; omega
theorem up_u64 (n : Int) : U64 (up64 n) := by unfold up64; exact ⟨by omega, by omega⟩
theorem down_u64 (n : Int) : U64 (down64 n) := by unfold down64; exact ⟨by omega, by omega⟩
theorem gW_in (w : Int) : 0 ≤ gW w ∧ gW w < 4294967296 := by
  have h1 := fld_nonneg w 3 32
  have h2 := fld_lt w 3 32
  have h3 : (2 : Int) ^ 32 = 4294967296 := by decide
  rw [h3] at h2
  exact ⟨h1, h2⟩
theorem hdrW_u64 {s : Int} (w : Int) (h : 0 ≤ s) : U64 (headerW s (gW w)) := headerW_u64 s (gW w) h ⟨(gW_in w).1, by have := (gW_in w).2; omega⟩
/-- Its step. -/
def parkX (o : PO) (M : MV) : PO × MV :=
  if o.ln = 1 then ({ o with ln := 2, w := M.V (adH o.sl) }, ldM M (adH o.sl))
  else if o.ln = 2 then ({ o with ln := 3 }, stM M (adH o.sl) (headerW 3 (gW o.w)))
  else if o.ln = 3 then ({ o with ln := 4, n := M.V (adP (segF o.sl)) }, ldM M (adP (segF o.sl)))
  else if o.ln = 4 then ({ o with ln := if casV M.V (adP (segF o.sl)) o.n = true then 5 else 3 }, csM M (adP (segF o.sl)) o.n (up64 o.n))
  else if o.ln = 5 then (if M.V (adG (segF o.sl)) = 1 then { o with ln := 6 } else { o with ln := 0, st := true }, ldM M (adG (segF o.sl)))
  else if o.ln = 6 then ({ o with ln := 7, n := M.V (adP (segF o.sl)) }, ldM M (adP (segF o.sl)))
  else if o.ln = 7 then ({ o with ln := if casV M.V (adP (segF o.sl)) o.n = true then 8 else 6 }, csM M (adP (segF o.sl)) o.n (down64 o.n))
  else if o.ln = 8 then ({ o with ln := if M.V (adG (segF o.sl)) = 1 then 9 else 3 }, ldM M (adG (segF o.sl)))
  else if o.ln = 9 then ({ o with ln := if casV M.V (adH o.sl) (headerW 3 (gW o.w)) = true then 10 else 11 }, csM M (adH o.sl) (headerW 3 (gW o.w)) (headerW 0 (gW o.w)))
  else if o.ln = 10 then ({ o with ln := if (pushX o.psh M).1.nx = 0 then 0 else 10, psh := (pushX o.psh M).1 }, (pushX o.psh M).2)
  else if o.ln = 11 then ({ o with ln := 12, n := M.V (adP (segF o.sl)) }, ldM M (adP (segF o.sl)))
  else if o.ln = 12 then ({ o with ln := if casV M.V (adP (segF o.sl)) o.n = true then 0 else 11 }, csM M (adP (segF o.sl)) o.n (up64 o.n))
  else (o, M)
/-- Of which numbers it may be. -/
structure PkNum (o : PO) : Prop where
  sl : 0 ≤ o.sl ∧ o.sl < 256
  w : U64 o.w
  n : U64 o.n
  st : o.ln ≠ 0 → o.st = false
  psh : o.ln ≠ 0 → o.ln ≤ 9 → o.psh = ⟨1, 0, o.sl⟩
  pnx : o.ln = 10 → U64 o.psh.h ∧ 0 ≤ o.psh.nx ∧ o.psh.nx ≤ 3 ∧ o.psh.to = o.sl
  ln : 0 ≤ o.ln ∧ o.ln ≤ 12
/-- The part that it is at: its type, its block's type, its cells. -/
inductive PkPart (o : PO) : TypeId → TypeId → List Value → Prop
  | l1 (h : o.ln = 1) : PkPart o 89 125 [.int .u8 9, .int .i64 o.sl, .int .i64 0, .int .u64 0]
  | l2 (h : o.ln = 2) : PkPart o 165 166 [.int .u8 9, .int .i64 o.sl, .int .i64 0, .int .u64 (headerW 3 (gW o.w))]
  | l3 (x : Int) (h : o.ln = 3) : PkPart o 147 181 [.int .u8 6, .int .i64 (segF o.sl), .int .i64 1, .int .i64 1, .int .u64 x, .bool false]
  | l4 (h : o.ln = 4) : PkPart o 147 181 [.int .u8 6, .int .i64 (segF o.sl), .int .i64 1, .int .i64 1, .int .u64 o.n, .bool true]
  | l5 (h : o.ln = 5) : PkPart o 149 151 [.int .u8 6, .int .i64 (segF o.sl), .int .i64 0, .int .u64 0]
  | l6 (x : Int) (h : o.ln = 6) : PkPart o 167 171 [.int .u8 6, .int .i64 (segF o.sl), .int .i64 1, .int .i64 (-1), .int .u64 x, .bool false]
  | l7 (h : o.ln = 7) : PkPart o 167 171 [.int .u8 6, .int .i64 (segF o.sl), .int .i64 1, .int .i64 (-1), .int .u64 o.n, .bool true]
  | l8 (h : o.ln = 8) : PkPart o 172 173 [.int .u8 6, .int .i64 (segF o.sl), .int .i64 0, .int .u64 0]
  | l9 (h : o.ln = 9) : PkPart o 174 179 [.int .u8 9, .int .i64 o.sl, .int .i64 0, .int .u64 (headerW 3 (gW o.w)), .int .u64 (headerW 0 (gW o.w)), .bool false]
  | l10 (h : o.ln = 10) : PkPart o 106 133 [.int .i64 o.psh.nx, .int .u64 o.psh.h, .int .i64 o.psh.to]
  | l11 (x : Int) (h : o.ln = 11) : PkPart o 180 182 [.int .u8 6, .int .i64 (segF o.sl), .int .i64 1, .int .i64 1, .int .u64 x, .bool false]
  | l12 (h : o.ln = 12) : PkPart o 180 182 [.int .u8 6, .int .i64 (segF o.sl), .int .i64 1, .int .i64 1, .int .u64 o.n, .bool true]
def genP (o : PO) : Int := if o.ln = 1 then 0 else gW o.w
def PkX (q r : Nat) (o : PO) (w : World) : Prop :=
  (o.ln = 0 ∧ ∃ s g, Bq q 94 [.nilIface, .int .i64 s, .int .u32 g, .bool o.st] w) ∨
  (∃ pt bt cs, PkPart o pt bt cs ∧ Bq q 94 [.iface pt (.pointer (some ⟨r, 0, none⟩)), .int .i64 o.sl, .int .u32 (genP o), .bool o.st] w ∧ Bq r bt cs w)
theorem PkPart.ne {o : PO} {pt bt : TypeId} {cs : List Value} (h : PkPart o pt bt cs) : bt ≠ 94 ∧ bt ≠ 110 ∧ o.ln ≠ 0 := by
  cases h <;> exact ⟨by decide, by decide, by omega⟩
section
theorem mt_header (r : Nat) (w : World) : (method (358) 89 (.pointer (some ⟨r, 0, none⟩)) "Step").run Tryz.prog w = .ok (150, .pointer (some ⟨r, 0, none⟩)) w := by kernel_rfl
theorem mt_state (r : Nat) (w : World) : (method (358) 149 (.pointer (some ⟨r, 0, none⟩)) "Step").run Tryz.prog w = .ok (150, .pointer (some ⟨r, 0, none⟩)) w := by kernel_rfl
theorem mt_era (r : Nat) (w : World) : (method (358) 159 (.pointer (some ⟨r, 0, none⟩)) "Step").run Tryz.prog w = .ok (150, .pointer (some ⟨r, 0, none⟩)) w := by kernel_rfl
theorem mt_still (r : Nat) (w : World) : (method (358) 172 (.pointer (some ⟨r, 0, none⟩)) "Step").run Tryz.prog w = .ok (150, .pointer (some ⟨r, 0, none⟩)) w := by kernel_rfl
theorem mt_parked (r : Nat) (w : World) : (method (358) 165 (.pointer (some ⟨r, 0, none⟩)) "Step").run Tryz.prog w = .ok (151, .pointer (some ⟨r, 0, none⟩)) w := by kernel_rfl
theorem mt_birth (r : Nat) (w : World) : (method (358) 161 (.pointer (some ⟨r, 0, none⟩)) "Step").run Tryz.prog w = .ok (151, .pointer (some ⟨r, 0, none⟩)) w := by kernel_rfl
theorem mt_live (r : Nat) (w : World) : (method (358) 163 (.pointer (some ⟨r, 0, none⟩)) "Step").run Tryz.prog w = .ok (151, .pointer (some ⟨r, 0, none⟩)) w := by kernel_rfl
theorem mt_last (r : Nat) (w : World) : (method (358) 140 (.pointer (some ⟨r, 0, none⟩)) "Step").run Tryz.prog w = .ok (151, .pointer (some ⟨r, 0, none⟩)) w := by kernel_rfl
theorem mt_again (r : Nat) (w : World) : (method (358) 145 (.pointer (some ⟨r, 0, none⟩)) "Step").run Tryz.prog w = .ok (151, .pointer (some ⟨r, 0, none⟩)) w := by kernel_rfl
theorem mt_free (r : Nat) (w : World) : (method (358) 174 (.pointer (some ⟨r, 0, none⟩)) "Step").run Tryz.prog w = .ok (153, .pointer (some ⟨r, 0, none⟩)) w := by kernel_rfl
theorem mt_aside (r : Nat) (w : World) : (method (358) 147 (.pointer (some ⟨r, 0, none⟩)) "Step").run Tryz.prog w = .ok (152, .pointer (some ⟨r, 0, none⟩)) w := by kernel_rfl
theorem mt_back (r : Nat) (w : World) : (method (358) 167 (.pointer (some ⟨r, 0, none⟩)) "Step").run Tryz.prog w = .ok (152, .pointer (some ⟨r, 0, none⟩)) w := by kernel_rfl
theorem mt_amend (r : Nat) (w : World) : (method (358) 180 (.pointer (some ⟨r, 0, none⟩)) "Step").run Tryz.prog w = .ok (152, .pointer (some ⟨r, 0, none⟩)) w := by kernel_rfl
theorem mt_Push (r : Nat) (w : World) : (method (358) 106 (.pointer (some ⟨r, 0, none⟩)) "Step").run Tryz.prog w = .ok (43, .pointer (some ⟨r, 0, none⟩)) w := by kernel_rfl
theorem mt_Pop (r : Nat) (w : World) : (method (358) 75 (.pointer (some ⟨r, 0, none⟩)) "Step").run Tryz.prog w = .ok (146, .pointer (some ⟨r, 0, none⟩)) w := by kernel_rfl
theorem mt_Park (r : Nat) (w : World) : (method (358) 45 (.pointer (some ⟨r, 0, none⟩)) "Step").run Tryz.prog w = .ok (36, .pointer (some ⟨r, 0, none⟩)) w := by kernel_rfl
variable {p b q r : Nat} {bt bt' pt' Ty : TypeId} {cs cs1 op part : List Value} {o : PO} {M M' : MV} {w w' X : World}
/-- What a part's step leaves: the part, the operation, the memory. -/
def Rn (p b r q : Nat) (bt Ty : TypeId) (cs op : List Value) (M : MV) (w X : World) : Prop := Bq r bt cs X ∧ Bq q Ty op X ∧ VX p b M X ∧ Onl p b [r] w X
theorem Rn.of (k : Bq q Ty op w) (F : VX p b M w) (hT : Ty ≠ 110) (hqr : q ≠ r) (h1 : Bq r bt cs X) (h2 : VX p b M' X) (h3 : Onl p b [r] w X) : Rn p b r q bt Ty cs op M' w X :=
  ⟨h1, k.onl h3 (F.ne hT k).1 (F.ne hT k).2 (by simpa using hqr), h2, h3⟩
theorem Rn.use (h : Rn p b r q bt Ty cs op M w X) : Bq q Ty op X ∧ VX p b M X ∧ Onl p b [r] w X := h.2
/-- What a Park's step leaves. -/
def PkStepped (p b q r : Nat) (R : PO × MV) (w : World) (e : Ending) (w' : World) : Prop := e = .returned (.bool (R.1.ln == 0)) ∧ ∃ r', PkX q r' R.1 w' ∧ VX p b R.2 w' ∧ Onl p b [q, r] w w' ∧ (r' = r ∨ w.heap.size ≤ r')
theorem fls {x : Int} (h : x ≠ 0) : (x == 0) = false := by simpa using h
theorem pk1 (hq : 1 < q) (hr : 1 < r) (hqr : q ≠ r) (F : VX p b M w) (hs : M.s.st < 1000000) (ok : PkNum o) (h : o.ln = 1) (kq : Bq q 94 [.iface 89 (.pointer (some ⟨r, 0, none⟩)), .int .i64 o.sl, .int .u32 (genP o), .bool o.st] w) (kr : Bq r 125 [.int .u8 9, .int .i64 o.sl, .int .i64 0, .int .u64 0] w) :
    Calls Tryz.prog 36 #[.pointer (some ⟨q, 0, none⟩), .pointer (some ⟨p, 0, none⟩)] w (PkStepped p b q r (parkX o M) w) := by
  have e : parkX o M = ({ o with ln := 2, w := (M.V (adH o.sl)) }, ldM M (adH o.sl)) := by unfold parkX; rw [if_pos h]
  rw [e]
  have hne := F.ne (by decide) kq
  have hsl := slot_i64 ok.sl
  have hsg := seg_i64 ok.sl
  have hgen : genP o = 0 := if_pos h
  refine (parkX_on hq Tryz.call150 (mt_header r) kq (R := Rn p b r q 125 94 [.int .u8 9, .int .i64 o.sl, .int .i64 0, .int .u64 (M.V (adH o.sl))] [.iface 89 (.pointer (some ⟨r, 0, none⟩)), .int .i64 o.sl, .int .u32 (genP o), .bool o.st] (ldM M (adH o.sl)) w) (E := [r]) (M := (ldM M (adH o.sl))) ((loadLn_step (t := 125) (x := (adH o.sl)) hr (by decide) F hs (by rw [ldc_H hsl]; exact kr)).mono fun ee X hX => ⟨hX.1, .of kq F (by decide) hqr (by have := hX.2.1; rw [ldc_H hsl] at this; exact this) hX.2.2.1 hX.2.2.2⟩) (fun X hX => hX.use) (fun X hX => park_fresh (n := w.heap.size) hX.2.2.2.size hX.2.1.lt (pkB_header hX.2.1 hq hX.2.2.1.lay (F.u64 _) hX.1)) FreshX.set).mono ?_
  rintro ee w' ⟨rfl, t, z, ⟨rfl, r', rfl, h1, h2, h3⟩, h4, h5, h6⟩
  exact ⟨rfl, r', .inr ⟨_, _, _, .l2 rfl, h4, h3⟩, h5, h6, .inr h1⟩
theorem pk2 (hq : 1 < q) (_ : 1 < r) (hqr : q ≠ r) (F : VX p b M w) (hs : M.s.st < 1000000) (ok : PkNum o) (h : o.ln = 2) (kq : Bq q 94 [.iface 165 (.pointer (some ⟨r, 0, none⟩)), .int .i64 o.sl, .int .u32 (genP o), .bool o.st] w) (kr : Bq r 166 [.int .u8 9, .int .i64 o.sl, .int .i64 0, .int .u64 (headerW 3 (gW o.w))] w) :
    Calls Tryz.prog 36 #[.pointer (some ⟨q, 0, none⟩), .pointer (some ⟨p, 0, none⟩)] w (PkStepped p b q r (parkX o M) w) := by
  have e : parkX o M = ({ o with ln := 3 }, stM M (adH o.sl) (headerW 3 (gW o.w))) := by unfold parkX; rw [if_neg (by omega), if_pos h]
  rw [e]
  have hne := F.ne (by decide) kq
  have hsl := slot_i64 ok.sl
  have hsg := seg_i64 ok.sl
  have hgen : genP o = gW o.w := if_neg (by omega)
  refine (parkX_on hq Tryz.call151 (mt_parked r) kq (R := Rn p b r q 166 94 [.int .u8 9, .int .i64 o.sl, .int .i64 0, .int .u64 (headerW 3 (gW o.w))] [.iface 165 (.pointer (some ⟨r, 0, none⟩)), .int .i64 o.sl, .int .u32 (genP o), .bool o.st] (stM M (adH o.sl) (headerW 3 (gW o.w))) w) (E := [r]) (M := (stM M (adH o.sl) (headerW 3 (gW o.w)))) ((storeLn_step (t := 166) (x := (adH o.sl)) (by decide) F hs (hdrW_u64 o.w (by decide)) (by rw [ldc_H hsl]; exact kr)).mono fun ee X hX => ⟨hX.1, .of kq F (by decide) hqr (by have := hX.2.1; rw [ldc_H hsl] at this; exact this) hX.2.2.1 (hX.2.2.2.more (by simp))⟩) (fun X hX => hX.use) (fun X hX => park_fresh (n := w.heap.size) hX.2.2.2.size hX.2.1.lt (pkB_parked hX.2.1 (seg_quo ok.sl) (seg_wrap ok.sl))) FreshX.set).mono ?_
  rintro ee w' ⟨rfl, t, z, ⟨rfl, r', rfl, h1, h2, h3⟩, h4, h5, h6⟩
  exact ⟨rfl, r', .inr ⟨_, _, _, .l3 0 rfl, (by rw [hgen] at h4; exact h4), h3⟩, h5, h6, .inr h1⟩
theorem pk3 (_ : 1 < q) (hr : 1 < r) (hqr : q ≠ r) (F : VX p b M w) (hs : M.s.st < 1000000) (ok : PkNum o) (h : o.ln = 3) {x : Int} (kq : Bq q 94 [.iface 147 (.pointer (some ⟨r, 0, none⟩)), .int .i64 o.sl, .int .u32 (genP o), .bool o.st] w) (kr : Bq r 181 [.int .u8 6, .int .i64 (segF o.sl), .int .i64 1, .int .i64 1, .int .u64 x, .bool false] w) :
    Calls Tryz.prog 36 #[.pointer (some ⟨q, 0, none⟩), .pointer (some ⟨p, 0, none⟩)] w (PkStepped p b q r (parkX o M) w) := by
  have e : parkX o M = ({ o with ln := 4, n := (M.V (adP (segF o.sl))) }, ldM M (adP (segF o.sl))) := by unfold parkX; rw [if_neg (by omega), if_neg (by omega), if_pos h]
  rw [e]
  have hne := F.ne (by decide) kq
  have hsl := slot_i64 ok.sl
  have hsg := seg_i64 ok.sl
  have hgen : genP o = gW o.w := if_neg (by omega)
  refine (parkX_no Tryz.call152 (mt_aside r) kq (R := Rn p b r q 181 94 [.int .u8 6, .int .i64 (segF o.sl), .int .i64 1, .int .i64 1, .int .u64 (M.V (adP (segF o.sl))), .bool true] [.iface 147 (.pointer (some ⟨r, 0, none⟩)), .int .i64 o.sl, .int .u32 (genP o), .bool o.st] (ldM M (adP (segF o.sl))) w) (E := [r]) (M := (ldM M (adP (segF o.sl)))) ((count_load (t := 181) (x := (adP (segF o.sl))) (g := 1) hr (by decide) F hs (u := x) (by rw [ctc_P hsg]; exact kr)).mono fun ee X hX => ⟨hX.1, .of kq F (by decide) hqr (by have := hX.2.1; rw [ctc_P hsg] at this; exact this) hX.2.2.1 hX.2.2.2⟩) (fun X hX => hX.use)).mono ?_
  rintro ee w' ⟨rfl, h1, h2, h3, h4⟩
  rw [hgen] at h2
  exact ⟨rfl, r, .inr ⟨_, _, _, .l4 rfl, h2, h1⟩, h3, h4.more (by simp), .inl rfl⟩
theorem pk4_yes (hq : 1 < q) (hr : 1 < r) (hqr : q ≠ r) (F : VX p b M w) (hs : M.s.st < 1000000) (ok : PkNum o) (h : o.ln = 4) (hc : casV M.V (adP (segF o.sl)) o.n = true) (kq : Bq q 94 [.iface 147 (.pointer (some ⟨r, 0, none⟩)), .int .i64 o.sl, .int .u32 (genP o), .bool o.st] w) (kr : Bq r 181 [.int .u8 6, .int .i64 (segF o.sl), .int .i64 1, .int .i64 1, .int .u64 o.n, .bool true] w) :
    Calls Tryz.prog 36 #[.pointer (some ⟨q, 0, none⟩), .pointer (some ⟨p, 0, none⟩)] w (PkStepped p b q r (parkX o M) w) := by
  have e : parkX o M = ({ o with ln := 5 }, csM M (adP (segF o.sl)) o.n (up64 o.n)) := by unfold parkX; rw [if_neg (by omega), if_neg (by omega), if_neg (by omega), if_pos h]; simp [hc]
  rw [e]
  have hne := F.ne (by decide) kq
  have hsl := slot_i64 ok.sl
  have hsg := seg_i64 ok.sl
  have hgen : genP o = gW o.w := if_neg (by omega)
  refine (parkX_on hq Tryz.call152 (mt_aside r) kq (R := Rn p b r q 181 94 [.int .u8 6, .int .i64 (segF o.sl), .int .i64 1, .int .i64 1, .int .u64 o.n, .bool false] [.iface 147 (.pointer (some ⟨r, 0, none⟩)), .int .i64 o.sl, .int .u32 (genP o), .bool o.st] (csM M (adP (segF o.sl)) o.n (up64 o.n)) w) (E := [r]) (M := (csM M (adP (segF o.sl)) o.n (up64 o.n))) ((count_cas (t := 181) (x := (adP (segF o.sl))) (g := 1) hr (by decide) F hs (gg := 1) (v := (up64 o.n)) (by decide) (up_wrap o.n) (up_u64 o.n) (u := o.n) (by rw [ctc_P hsg]; exact kr) (c := true) hc).mono fun ee X hX => ⟨hX.1, .of kq F (by decide) hqr (by have := hX.2.1; rw [ctc_P hsg] at this; exact this) hX.2.2.1 hX.2.2.2⟩) (fun X hX => hX.use) (fun X hX => park_fresh (n := w.heap.size) hX.2.2.2.size hX.2.1.lt (pkB_aside hX.2.1 (seg_quo ok.sl) (seg_wrap ok.sl))) FreshX.set).mono ?_
  rintro ee w' ⟨rfl, t, z, ⟨rfl, r', rfl, h1, h2, h3⟩, h4, h5, h6⟩
  exact ⟨rfl, r', .inr ⟨_, _, _, .l5 rfl, (by rw [hgen] at h4; exact h4), h3⟩, h5, h6, .inr h1⟩
theorem pk4_no (_ : 1 < q) (hr : 1 < r) (hqr : q ≠ r) (F : VX p b M w) (hs : M.s.st < 1000000) (ok : PkNum o) (h : o.ln = 4) (hc : casV M.V (adP (segF o.sl)) o.n = false) (kq : Bq q 94 [.iface 147 (.pointer (some ⟨r, 0, none⟩)), .int .i64 o.sl, .int .u32 (genP o), .bool o.st] w) (kr : Bq r 181 [.int .u8 6, .int .i64 (segF o.sl), .int .i64 1, .int .i64 1, .int .u64 o.n, .bool true] w) :
    Calls Tryz.prog 36 #[.pointer (some ⟨q, 0, none⟩), .pointer (some ⟨p, 0, none⟩)] w (PkStepped p b q r (parkX o M) w) := by
  have e : parkX o M = ({ o with ln := 3 }, csM M (adP (segF o.sl)) o.n (up64 o.n)) := by unfold parkX; rw [if_neg (by omega), if_neg (by omega), if_neg (by omega), if_pos h]; simp [hc]
  rw [e]
  have hne := F.ne (by decide) kq
  have hsl := slot_i64 ok.sl
  have hsg := seg_i64 ok.sl
  have hgen : genP o = gW o.w := if_neg (by omega)
  refine (parkX_no Tryz.call152 (mt_aside r) kq (R := Rn p b r q 181 94 [.int .u8 6, .int .i64 (segF o.sl), .int .i64 1, .int .i64 1, .int .u64 o.n, .bool false] [.iface 147 (.pointer (some ⟨r, 0, none⟩)), .int .i64 o.sl, .int .u32 (genP o), .bool o.st] (csM M (adP (segF o.sl)) o.n (up64 o.n)) w) (E := [r]) (M := (csM M (adP (segF o.sl)) o.n (up64 o.n))) ((count_cas (t := 181) (x := (adP (segF o.sl))) (g := 1) hr (by decide) F hs (gg := 1) (v := (up64 o.n)) (by decide) (up_wrap o.n) (up_u64 o.n) (u := o.n) (by rw [ctc_P hsg]; exact kr) (c := false) hc).mono fun ee X hX => ⟨hX.1, .of kq F (by decide) hqr (by have := hX.2.1; rw [ctc_P hsg] at this; exact this) hX.2.2.1 hX.2.2.2⟩) (fun X hX => hX.use)).mono ?_
  rintro ee w' ⟨rfl, h1, h2, h3, h4⟩
  rw [hgen] at h2
  exact ⟨rfl, r, .inr ⟨_, _, _, .l3 o.n rfl, h2, h1⟩, h3, h4.more (by simp), .inl rfl⟩
theorem pk5_yes (hq : 1 < q) (hr : 1 < r) (hqr : q ≠ r) (F : VX p b M w) (hs : M.s.st < 1000000) (ok : PkNum o) (h : o.ln = 5) (hc : M.V (adG (segF o.sl)) = 1) (kq : Bq q 94 [.iface 149 (.pointer (some ⟨r, 0, none⟩)), .int .i64 o.sl, .int .u32 (genP o), .bool o.st] w) (kr : Bq r 151 [.int .u8 6, .int .i64 (segF o.sl), .int .i64 0, .int .u64 0] w) :
    Calls Tryz.prog 36 #[.pointer (some ⟨q, 0, none⟩), .pointer (some ⟨p, 0, none⟩)] w (PkStepped p b q r (parkX o M) w) := by
  have e : parkX o M = ({ o with ln := 6 }, ldM M (adG (segF o.sl))) := by unfold parkX; rw [if_neg (by omega), if_neg (by omega), if_neg (by omega), if_neg (by omega), if_pos h]; simp [hc]
  rw [e]
  have hne := F.ne (by decide) kq
  have hsl := slot_i64 ok.sl
  have hsg := seg_i64 ok.sl
  have hgen : genP o = gW o.w := if_neg (by omega)
  refine (parkX_on hq Tryz.call150 (mt_state r) kq (R := Rn p b r q 151 94 [.int .u8 6, .int .i64 (segF o.sl), .int .i64 0, .int .u64 (M.V (adG (segF o.sl)))] [.iface 149 (.pointer (some ⟨r, 0, none⟩)), .int .i64 o.sl, .int .u32 (genP o), .bool o.st] (ldM M (adG (segF o.sl))) w) (E := [r]) (M := (ldM M (adG (segF o.sl)))) ((loadLn_step (t := 151) (x := (adG (segF o.sl))) hr (by decide) F hs (by rw [ldc_G hsg]; exact kr)).mono fun ee X hX => ⟨hX.1, .of kq F (by decide) hqr (by have := hX.2.1; rw [ldc_G hsg] at this; exact this) hX.2.2.1 hX.2.2.2⟩) (fun X hX => hX.use) (fun X hX => park_fresh (n := w.heap.size) hX.2.2.2.size hX.2.1.lt (pkB_back hX.2.1 (seg_quo ok.sl) (seg_wrap ok.sl) hX.1 (by simpa using hc))) FreshX.set).mono ?_
  rintro ee w' ⟨rfl, t, z, ⟨rfl, r', rfl, h1, h2, h3⟩, h4, h5, h6⟩
  exact ⟨rfl, r', .inr ⟨_, _, _, .l6 0 rfl, (by rw [hgen] at h4; exact h4), h3⟩, h5, h6, .inr h1⟩
theorem pk5_no (hq : 1 < q) (hr : 1 < r) (hqr : q ≠ r) (F : VX p b M w) (hs : M.s.st < 1000000) (ok : PkNum o) (h : o.ln = 5) (hc : M.V (adG (segF o.sl)) ≠ 1) (kq : Bq q 94 [.iface 149 (.pointer (some ⟨r, 0, none⟩)), .int .i64 o.sl, .int .u32 (genP o), .bool o.st] w) (kr : Bq r 151 [.int .u8 6, .int .i64 (segF o.sl), .int .i64 0, .int .u64 0] w) :
    Calls Tryz.prog 36 #[.pointer (some ⟨q, 0, none⟩), .pointer (some ⟨p, 0, none⟩)] w (PkStepped p b q r (parkX o M) w) := by
  have e : parkX o M = ({ o with ln := 0, st := true }, ldM M (adG (segF o.sl))) := by unfold parkX; rw [if_neg (by omega), if_neg (by omega), if_neg (by omega), if_neg (by omega), if_pos h]; simp [hc]
  rw [e]
  have hne := F.ne (by decide) kq
  have hsl := slot_i64 ok.sl
  have hsg := seg_i64 ok.sl
  have hgen : genP o = gW o.w := if_neg (by omega)
  refine (parkX_end hq Tryz.call150 (mt_state r) kq (R := Rn p b r q 151 94 [.int .u8 6, .int .i64 (segF o.sl), .int .i64 0, .int .u64 (M.V (adG (segF o.sl)))] [.iface 149 (.pointer (some ⟨r, 0, none⟩)), .int .i64 o.sl, .int .u32 (genP o), .bool o.st] (ldM M (adG (segF o.sl))) w) (E := [r]) (M := (ldM M (adG (segF o.sl)))) ((loadLn_step (t := 151) (x := (adG (segF o.sl))) hr (by decide) F hs (by rw [ldc_G hsg]; exact kr)).mono fun ee X hX => ⟨hX.1, .of kq F (by decide) hqr (by have := hX.2.1; rw [ldc_G hsg] at this; exact this) hX.2.2.1 hX.2.2.2⟩) (fun X hX => hX.use) (fun X hX => pkB_stays hX.2.1 hX.1 (by simpa using hc))).mono ?_
  rintro ee w' ⟨rfl, h1, h2, h3⟩
  exact ⟨rfl, r, .inl ⟨rfl, _, _, h1⟩, h2, h3, .inl rfl⟩
theorem pk6 (_ : 1 < q) (hr : 1 < r) (hqr : q ≠ r) (F : VX p b M w) (hs : M.s.st < 1000000) (ok : PkNum o) (h : o.ln = 6) {x : Int} (kq : Bq q 94 [.iface 167 (.pointer (some ⟨r, 0, none⟩)), .int .i64 o.sl, .int .u32 (genP o), .bool o.st] w) (kr : Bq r 171 [.int .u8 6, .int .i64 (segF o.sl), .int .i64 1, .int .i64 (-1), .int .u64 x, .bool false] w) :
    Calls Tryz.prog 36 #[.pointer (some ⟨q, 0, none⟩), .pointer (some ⟨p, 0, none⟩)] w (PkStepped p b q r (parkX o M) w) := by
  have e : parkX o M = ({ o with ln := 7, n := (M.V (adP (segF o.sl))) }, ldM M (adP (segF o.sl))) := by unfold parkX; rw [if_neg (by omega), if_neg (by omega), if_neg (by omega), if_neg (by omega), if_neg (by omega), if_pos h]
  rw [e]
  have hne := F.ne (by decide) kq
  have hsl := slot_i64 ok.sl
  have hsg := seg_i64 ok.sl
  have hgen : genP o = gW o.w := if_neg (by omega)
  refine (parkX_no Tryz.call152 (mt_back r) kq (R := Rn p b r q 171 94 [.int .u8 6, .int .i64 (segF o.sl), .int .i64 1, .int .i64 (-1), .int .u64 (M.V (adP (segF o.sl))), .bool true] [.iface 167 (.pointer (some ⟨r, 0, none⟩)), .int .i64 o.sl, .int .u32 (genP o), .bool o.st] (ldM M (adP (segF o.sl))) w) (E := [r]) (M := (ldM M (adP (segF o.sl)))) ((count_load (t := 171) (x := (adP (segF o.sl))) (g := (-1)) hr (by decide) F hs (u := x) (by rw [ctc_P hsg]; exact kr)).mono fun ee X hX => ⟨hX.1, .of kq F (by decide) hqr (by have := hX.2.1; rw [ctc_P hsg] at this; exact this) hX.2.2.1 hX.2.2.2⟩) (fun X hX => hX.use)).mono ?_
  rintro ee w' ⟨rfl, h1, h2, h3, h4⟩
  rw [hgen] at h2
  exact ⟨rfl, r, .inr ⟨_, _, _, .l7 rfl, h2, h1⟩, h3, h4.more (by simp), .inl rfl⟩
theorem pk7_yes (hq : 1 < q) (hr : 1 < r) (hqr : q ≠ r) (F : VX p b M w) (hs : M.s.st < 1000000) (ok : PkNum o) (h : o.ln = 7) (hc : casV M.V (adP (segF o.sl)) o.n = true) (kq : Bq q 94 [.iface 167 (.pointer (some ⟨r, 0, none⟩)), .int .i64 o.sl, .int .u32 (genP o), .bool o.st] w) (kr : Bq r 171 [.int .u8 6, .int .i64 (segF o.sl), .int .i64 1, .int .i64 (-1), .int .u64 o.n, .bool true] w) :
    Calls Tryz.prog 36 #[.pointer (some ⟨q, 0, none⟩), .pointer (some ⟨p, 0, none⟩)] w (PkStepped p b q r (parkX o M) w) := by
  have e : parkX o M = ({ o with ln := 8 }, csM M (adP (segF o.sl)) o.n (down64 o.n)) := by unfold parkX; rw [if_neg (by omega), if_neg (by omega), if_neg (by omega), if_neg (by omega), if_neg (by omega), if_neg (by omega), if_pos h]; simp [hc]
  rw [e]
  have hne := F.ne (by decide) kq
  have hsl := slot_i64 ok.sl
  have hsg := seg_i64 ok.sl
  have hgen : genP o = gW o.w := if_neg (by omega)
  refine (parkX_on hq Tryz.call152 (mt_back r) kq (R := Rn p b r q 171 94 [.int .u8 6, .int .i64 (segF o.sl), .int .i64 1, .int .i64 (-1), .int .u64 o.n, .bool false] [.iface 167 (.pointer (some ⟨r, 0, none⟩)), .int .i64 o.sl, .int .u32 (genP o), .bool o.st] (csM M (adP (segF o.sl)) o.n (down64 o.n)) w) (E := [r]) (M := (csM M (adP (segF o.sl)) o.n (down64 o.n))) ((count_cas (t := 171) (x := (adP (segF o.sl))) (g := (-1)) hr (by decide) F hs (gg := 18446744073709551615) (v := (down64 o.n)) (by decide) (down_wrap o.n) (down_u64 o.n) (u := o.n) (by rw [ctc_P hsg]; exact kr) (c := true) hc).mono fun ee X hX => ⟨hX.1, .of kq F (by decide) hqr (by have := hX.2.1; rw [ctc_P hsg] at this; exact this) hX.2.2.1 hX.2.2.2⟩) (fun X hX => hX.use) (fun X hX => park_fresh (n := w.heap.size) hX.2.2.2.size hX.2.1.lt (pkB_still hX.2.1 (seg_quo ok.sl) (seg_wrap ok.sl))) FreshX.set).mono ?_
  rintro ee w' ⟨rfl, t, z, ⟨rfl, r', rfl, h1, h2, h3⟩, h4, h5, h6⟩
  exact ⟨rfl, r', .inr ⟨_, _, _, .l8 rfl, (by rw [hgen] at h4; exact h4), h3⟩, h5, h6, .inr h1⟩
theorem pk7_no (_ : 1 < q) (hr : 1 < r) (hqr : q ≠ r) (F : VX p b M w) (hs : M.s.st < 1000000) (ok : PkNum o) (h : o.ln = 7) (hc : casV M.V (adP (segF o.sl)) o.n = false) (kq : Bq q 94 [.iface 167 (.pointer (some ⟨r, 0, none⟩)), .int .i64 o.sl, .int .u32 (genP o), .bool o.st] w) (kr : Bq r 171 [.int .u8 6, .int .i64 (segF o.sl), .int .i64 1, .int .i64 (-1), .int .u64 o.n, .bool true] w) :
    Calls Tryz.prog 36 #[.pointer (some ⟨q, 0, none⟩), .pointer (some ⟨p, 0, none⟩)] w (PkStepped p b q r (parkX o M) w) := by
  have e : parkX o M = ({ o with ln := 6 }, csM M (adP (segF o.sl)) o.n (down64 o.n)) := by unfold parkX; rw [if_neg (by omega), if_neg (by omega), if_neg (by omega), if_neg (by omega), if_neg (by omega), if_neg (by omega), if_pos h]; simp [hc]
  rw [e]
  have hne := F.ne (by decide) kq
  have hsl := slot_i64 ok.sl
  have hsg := seg_i64 ok.sl
  have hgen : genP o = gW o.w := if_neg (by omega)
  refine (parkX_no Tryz.call152 (mt_back r) kq (R := Rn p b r q 171 94 [.int .u8 6, .int .i64 (segF o.sl), .int .i64 1, .int .i64 (-1), .int .u64 o.n, .bool false] [.iface 167 (.pointer (some ⟨r, 0, none⟩)), .int .i64 o.sl, .int .u32 (genP o), .bool o.st] (csM M (adP (segF o.sl)) o.n (down64 o.n)) w) (E := [r]) (M := (csM M (adP (segF o.sl)) o.n (down64 o.n))) ((count_cas (t := 171) (x := (adP (segF o.sl))) (g := (-1)) hr (by decide) F hs (gg := 18446744073709551615) (v := (down64 o.n)) (by decide) (down_wrap o.n) (down_u64 o.n) (u := o.n) (by rw [ctc_P hsg]; exact kr) (c := false) hc).mono fun ee X hX => ⟨hX.1, .of kq F (by decide) hqr (by have := hX.2.1; rw [ctc_P hsg] at this; exact this) hX.2.2.1 hX.2.2.2⟩) (fun X hX => hX.use)).mono ?_
  rintro ee w' ⟨rfl, h1, h2, h3, h4⟩
  rw [hgen] at h2
  exact ⟨rfl, r, .inr ⟨_, _, _, .l6 o.n rfl, h2, h1⟩, h3, h4.more (by simp), .inl rfl⟩
theorem pk8_yes (hq : 1 < q) (hr : 1 < r) (hqr : q ≠ r) (F : VX p b M w) (hs : M.s.st < 1000000) (ok : PkNum o) (h : o.ln = 8) (hc : M.V (adG (segF o.sl)) = 1) (kq : Bq q 94 [.iface 172 (.pointer (some ⟨r, 0, none⟩)), .int .i64 o.sl, .int .u32 (genP o), .bool o.st] w) (kr : Bq r 173 [.int .u8 6, .int .i64 (segF o.sl), .int .i64 0, .int .u64 0] w) :
    Calls Tryz.prog 36 #[.pointer (some ⟨q, 0, none⟩), .pointer (some ⟨p, 0, none⟩)] w (PkStepped p b q r (parkX o M) w) := by
  have e : parkX o M = ({ o with ln := 9 }, ldM M (adG (segF o.sl))) := by unfold parkX; rw [if_neg (by omega), if_neg (by omega), if_neg (by omega), if_neg (by omega), if_neg (by omega), if_neg (by omega), if_neg (by omega), if_pos h]; simp [hc]
  rw [e]
  have hne := F.ne (by decide) kq
  have hsl := slot_i64 ok.sl
  have hsg := seg_i64 ok.sl
  have hgen : genP o = gW o.w := if_neg (by omega)
  refine (parkX_on hq Tryz.call150 (mt_still r) kq (R := Rn p b r q 173 94 [.int .u8 6, .int .i64 (segF o.sl), .int .i64 0, .int .u64 (M.V (adG (segF o.sl)))] [.iface 172 (.pointer (some ⟨r, 0, none⟩)), .int .i64 o.sl, .int .u32 (genP o), .bool o.st] (ldM M (adG (segF o.sl))) w) (E := [r]) (M := (ldM M (adG (segF o.sl)))) ((loadLn_step (t := 173) (x := (adG (segF o.sl))) hr (by decide) F hs (by rw [ldc_G hsg]; exact kr)).mono fun ee X hX => ⟨hX.1, .of kq F (by decide) hqr (by have := hX.2.1; rw [ldc_G hsg] at this; exact this) hX.2.2.1 hX.2.2.2⟩) (fun X hX => hX.use) (fun X hX => park_fresh (n := w.heap.size) hX.2.2.2.size hX.2.1.lt (pkB_free hX.2.1 hX.2.2.1.lay (by rw [hgen]; exact gen_u64' o.w) hX.1 (by simpa using hc))) FreshX.set).mono ?_
  rintro ee w' ⟨rfl, t, z, ⟨rfl, r', rfl, h1, h2, h3⟩, h4, h5, h6⟩
  exact ⟨rfl, r', .inr ⟨_, _, _, .l9 rfl, (by rw [hgen] at h4; exact h4), (by rw [hgen] at h3; exact h3)⟩, h5, h6, .inr h1⟩
theorem pk8_no (hq : 1 < q) (hr : 1 < r) (hqr : q ≠ r) (F : VX p b M w) (hs : M.s.st < 1000000) (ok : PkNum o) (h : o.ln = 8) (hc : M.V (adG (segF o.sl)) ≠ 1) (kq : Bq q 94 [.iface 172 (.pointer (some ⟨r, 0, none⟩)), .int .i64 o.sl, .int .u32 (genP o), .bool o.st] w) (kr : Bq r 173 [.int .u8 6, .int .i64 (segF o.sl), .int .i64 0, .int .u64 0] w) :
    Calls Tryz.prog 36 #[.pointer (some ⟨q, 0, none⟩), .pointer (some ⟨p, 0, none⟩)] w (PkStepped p b q r (parkX o M) w) := by
  have e : parkX o M = ({ o with ln := 3 }, ldM M (adG (segF o.sl))) := by unfold parkX; rw [if_neg (by omega), if_neg (by omega), if_neg (by omega), if_neg (by omega), if_neg (by omega), if_neg (by omega), if_neg (by omega), if_pos h]; simp [hc]
  rw [e]
  have hne := F.ne (by decide) kq
  have hsl := slot_i64 ok.sl
  have hsg := seg_i64 ok.sl
  have hgen : genP o = gW o.w := if_neg (by omega)
  refine (parkX_on hq Tryz.call150 (mt_still r) kq (R := Rn p b r q 173 94 [.int .u8 6, .int .i64 (segF o.sl), .int .i64 0, .int .u64 (M.V (adG (segF o.sl)))] [.iface 172 (.pointer (some ⟨r, 0, none⟩)), .int .i64 o.sl, .int .u32 (genP o), .bool o.st] (ldM M (adG (segF o.sl))) w) (E := [r]) (M := (ldM M (adG (segF o.sl)))) ((loadLn_step (t := 173) (x := (adG (segF o.sl))) hr (by decide) F hs (by rw [ldc_G hsg]; exact kr)).mono fun ee X hX => ⟨hX.1, .of kq F (by decide) hqr (by have := hX.2.1; rw [ldc_G hsg] at this; exact this) hX.2.2.1 hX.2.2.2⟩) (fun X hX => hX.use) (fun X hX => park_fresh (n := w.heap.size) hX.2.2.2.size hX.2.1.lt (pkB_again hX.2.1 (seg_quo ok.sl) (seg_wrap ok.sl) hX.1 (by simpa using hc))) FreshX.set).mono ?_
  rintro ee w' ⟨rfl, t, z, ⟨rfl, r', rfl, h1, h2, h3⟩, h4, h5, h6⟩
  exact ⟨rfl, r', .inr ⟨_, _, _, .l3 0 rfl, (by rw [hgen] at h4; exact h4), h3⟩, h5, h6, .inr h1⟩
theorem pk9_yes (hq : 1 < q) (hr : 1 < r) (hqr : q ≠ r) (F : VX p b M w) (hs : M.s.st < 1000000) (ok : PkNum o) (h : o.ln = 9) (hc : casV M.V (adH o.sl) (headerW 3 (gW o.w)) = true) (kq : Bq q 94 [.iface 174 (.pointer (some ⟨r, 0, none⟩)), .int .i64 o.sl, .int .u32 (genP o), .bool o.st] w) (kr : Bq r 179 [.int .u8 9, .int .i64 o.sl, .int .i64 0, .int .u64 (headerW 3 (gW o.w)), .int .u64 (headerW 0 (gW o.w)), .bool false] w) :
    Calls Tryz.prog 36 #[.pointer (some ⟨q, 0, none⟩), .pointer (some ⟨p, 0, none⟩)] w (PkStepped p b q r (parkX o M) w) := by
  have e : parkX o M = ({ o with ln := 10 }, csM M (adH o.sl) (headerW 3 (gW o.w)) (headerW 0 (gW o.w))) := by unfold parkX; rw [if_neg (by omega), if_neg (by omega), if_neg (by omega), if_neg (by omega), if_neg (by omega), if_neg (by omega), if_neg (by omega), if_neg (by omega), if_pos h]; simp [hc]
  rw [e]
  have hne := F.ne (by decide) kq
  have hsl := slot_i64 ok.sl
  have hsg := seg_i64 ok.sl
  have hgen : genP o = gW o.w := if_neg (by omega)
  refine (parkX_on hq Tryz.call153 (mt_free r) kq (R := Rn p b r q 179 94 [.int .u8 9, .int .i64 o.sl, .int .i64 0, .int .u64 (headerW 3 (gW o.w)), .int .u64 (headerW 0 (gW o.w)), .bool true] [.iface 174 (.pointer (some ⟨r, 0, none⟩)), .int .i64 o.sl, .int .u32 (genP o), .bool o.st] (csM M (adH o.sl) (headerW 3 (gW o.w)) (headerW 0 (gW o.w))) w) (E := [r]) (M := (csM M (adH o.sl) (headerW 3 (gW o.w)) (headerW 0 (gW o.w)))) ((swapLn_step (t := 179) (x := (adH o.sl)) hr (by decide) F hs (hdrW_u64 o.w (by decide)) (by rw [swc_H hsl]; exact kr) (c := true) hc).mono fun ee X hX => ⟨hX.1, .of kq F (by decide) hqr (by have := hX.2.1; rw [swc_H hsl] at this; exact this) hX.2.2.1 hX.2.2.2⟩) (fun X hX => hX.use) (fun X hX => park_fresh (n := w.heap.size) hX.2.2.2.size hX.2.1.lt (pkB_push hX.2.1 ok.sl.1 ok.sl.2 hX.1)) FreshX.set).mono ?_
  rintro ee w' ⟨rfl, t, z, ⟨rfl, r', rfl, h1, h2, h3⟩, h4, h5, h6⟩
  exact ⟨rfl, r', .inr ⟨_, _, _, .l10 rfl, (by rw [hgen] at h4; exact h4), (by rw [ok.psh (by omega) (by omega)]; exact h3)⟩, h5, h6, .inr h1⟩
theorem pk9_no (hq : 1 < q) (hr : 1 < r) (hqr : q ≠ r) (F : VX p b M w) (hs : M.s.st < 1000000) (ok : PkNum o) (h : o.ln = 9) (hc : casV M.V (adH o.sl) (headerW 3 (gW o.w)) = false) (kq : Bq q 94 [.iface 174 (.pointer (some ⟨r, 0, none⟩)), .int .i64 o.sl, .int .u32 (genP o), .bool o.st] w) (kr : Bq r 179 [.int .u8 9, .int .i64 o.sl, .int .i64 0, .int .u64 (headerW 3 (gW o.w)), .int .u64 (headerW 0 (gW o.w)), .bool false] w) :
    Calls Tryz.prog 36 #[.pointer (some ⟨q, 0, none⟩), .pointer (some ⟨p, 0, none⟩)] w (PkStepped p b q r (parkX o M) w) := by
  have e : parkX o M = ({ o with ln := 11 }, csM M (adH o.sl) (headerW 3 (gW o.w)) (headerW 0 (gW o.w))) := by unfold parkX; rw [if_neg (by omega), if_neg (by omega), if_neg (by omega), if_neg (by omega), if_neg (by omega), if_neg (by omega), if_neg (by omega), if_neg (by omega), if_pos h]; simp [hc]
  rw [e]
  have hne := F.ne (by decide) kq
  have hsl := slot_i64 ok.sl
  have hsg := seg_i64 ok.sl
  have hgen : genP o = gW o.w := if_neg (by omega)
  refine (parkX_on hq Tryz.call153 (mt_free r) kq (R := Rn p b r q 179 94 [.int .u8 9, .int .i64 o.sl, .int .i64 0, .int .u64 (headerW 3 (gW o.w)), .int .u64 (headerW 0 (gW o.w)), .bool false] [.iface 174 (.pointer (some ⟨r, 0, none⟩)), .int .i64 o.sl, .int .u32 (genP o), .bool o.st] (csM M (adH o.sl) (headerW 3 (gW o.w)) (headerW 0 (gW o.w))) w) (E := [r]) (M := (csM M (adH o.sl) (headerW 3 (gW o.w)) (headerW 0 (gW o.w)))) ((swapLn_step (t := 179) (x := (adH o.sl)) hr (by decide) F hs (hdrW_u64 o.w (by decide)) (by rw [swc_H hsl]; exact kr) (c := false) hc).mono fun ee X hX => ⟨hX.1, .of kq F (by decide) hqr (by have := hX.2.1; rw [swc_H hsl] at this; exact this) hX.2.2.1 hX.2.2.2⟩) (fun X hX => hX.use) (fun X hX => park_fresh (n := w.heap.size) hX.2.2.2.size hX.2.1.lt (pkB_amend hX.2.1 (seg_quo ok.sl) (seg_wrap ok.sl) hX.1)) FreshX.set).mono ?_
  rintro ee w' ⟨rfl, t, z, ⟨rfl, r', rfl, h1, h2, h3⟩, h4, h5, h6⟩
  exact ⟨rfl, r', .inr ⟨_, _, _, .l11 0 rfl, (by rw [hgen] at h4; exact h4), h3⟩, h5, h6, .inr h1⟩
theorem pk10_yes (hq : 1 < q) (hr : 1 < r) (hqr : q ≠ r) (F : VX p b M w) (hs : M.s.st < 1000000) (ok : PkNum o) (h : o.ln = 10) (hc : (pushX o.psh M).1.nx = 0) (kq : Bq q 94 [.iface 106 (.pointer (some ⟨r, 0, none⟩)), .int .i64 o.sl, .int .u32 (genP o), .bool o.st] w) (kr : Bq r 133 [.int .i64 o.psh.nx, .int .u64 o.psh.h, .int .i64 o.psh.to] w) :
    Calls Tryz.prog 36 #[.pointer (some ⟨q, 0, none⟩), .pointer (some ⟨p, 0, none⟩)] w (PkStepped p b q r (parkX o M) w) := by
  have e : parkX o M = ({ o with ln := 0, psh := (pushX o.psh M).1 }, (pushX o.psh M).2) := by unfold parkX; rw [if_neg (by omega), if_neg (by omega), if_neg (by omega), if_neg (by omega), if_neg (by omega), if_neg (by omega), if_neg (by omega), if_neg (by omega), if_neg (by omega), if_pos h]; simp [hc]
  rw [e]
  have hne := F.ne (by decide) kq
  have hsl := slot_i64 ok.sl
  have hsg := seg_i64 ok.sl
  have hgen : genP o = gW o.w := if_neg (by omega)
  refine (parkX_end hq Tryz.call43 (mt_Push r) kq (R := Rn p b r q 133 94 [.int .i64 (pushX o.psh M).1.nx, .int .u64 (pushX o.psh M).1.h, .int .i64 (pushX o.psh M).1.to] [.iface 106 (.pointer (some ⟨r, 0, none⟩)), .int .i64 o.sl, .int .u32 (genP o), .bool o.st] (pushX o.psh M).2 w) (E := [r]) (M := (pushX o.psh M).2) ((push_stepX hr F hs (ok.pnx h).1 ⟨(ok.pnx h).2.1, (ok.pnx h).2.2.1⟩ (fun _ => by rw [(ok.pnx h).2.2.2]; exact hsl) kr).mono fun ee X hX => ⟨by rw [hX.1]; simp [hc], .of kq F (by decide) hqr hX.2.1 hX.2.2.1 (.of_only3 hX.2.2.2 (by simp))⟩) (fun X hX => hX.use) (fun X hX => pkB_pushed hX.2.1)).mono ?_
  rintro ee w' ⟨rfl, h1, h2, h3⟩
  exact ⟨rfl, r, .inl ⟨rfl, _, _, h1⟩, h2, h3, .inl rfl⟩
theorem pk10_no (_ : 1 < q) (hr : 1 < r) (hqr : q ≠ r) (F : VX p b M w) (hs : M.s.st < 1000000) (ok : PkNum o) (h : o.ln = 10) (hc : (pushX o.psh M).1.nx ≠ 0) (kq : Bq q 94 [.iface 106 (.pointer (some ⟨r, 0, none⟩)), .int .i64 o.sl, .int .u32 (genP o), .bool o.st] w) (kr : Bq r 133 [.int .i64 o.psh.nx, .int .u64 o.psh.h, .int .i64 o.psh.to] w) :
    Calls Tryz.prog 36 #[.pointer (some ⟨q, 0, none⟩), .pointer (some ⟨p, 0, none⟩)] w (PkStepped p b q r (parkX o M) w) := by
  have e : parkX o M = ({ o with ln := 10, psh := (pushX o.psh M).1 }, (pushX o.psh M).2) := by unfold parkX; rw [if_neg (by omega), if_neg (by omega), if_neg (by omega), if_neg (by omega), if_neg (by omega), if_neg (by omega), if_neg (by omega), if_neg (by omega), if_neg (by omega), if_pos h]; simp [hc]
  rw [e]
  have hne := F.ne (by decide) kq
  have hsl := slot_i64 ok.sl
  have hsg := seg_i64 ok.sl
  have hgen : genP o = gW o.w := if_neg (by omega)
  refine (parkX_no Tryz.call43 (mt_Push r) kq (R := Rn p b r q 133 94 [.int .i64 (pushX o.psh M).1.nx, .int .u64 (pushX o.psh M).1.h, .int .i64 (pushX o.psh M).1.to] [.iface 106 (.pointer (some ⟨r, 0, none⟩)), .int .i64 o.sl, .int .u32 (genP o), .bool o.st] (pushX o.psh M).2 w) (E := [r]) (M := (pushX o.psh M).2) ((push_stepX hr F hs (ok.pnx h).1 ⟨(ok.pnx h).2.1, (ok.pnx h).2.2.1⟩ (fun _ => by rw [(ok.pnx h).2.2.2]; exact hsl) kr).mono fun ee X hX => ⟨by rw [hX.1]; simp [hc], .of kq F (by decide) hqr hX.2.1 hX.2.2.1 (.of_only3 hX.2.2.2 (by simp))⟩) (fun X hX => hX.use)).mono ?_
  rintro ee w' ⟨rfl, h1, h2, h3, h4⟩
  rw [hgen] at h2
  exact ⟨rfl, r, .inr ⟨_, _, _, .l10 rfl, h2, h1⟩, h3, h4.more (by simp), .inl rfl⟩
theorem pk11 (_ : 1 < q) (hr : 1 < r) (hqr : q ≠ r) (F : VX p b M w) (hs : M.s.st < 1000000) (ok : PkNum o) (h : o.ln = 11) {x : Int} (kq : Bq q 94 [.iface 180 (.pointer (some ⟨r, 0, none⟩)), .int .i64 o.sl, .int .u32 (genP o), .bool o.st] w) (kr : Bq r 182 [.int .u8 6, .int .i64 (segF o.sl), .int .i64 1, .int .i64 1, .int .u64 x, .bool false] w) :
    Calls Tryz.prog 36 #[.pointer (some ⟨q, 0, none⟩), .pointer (some ⟨p, 0, none⟩)] w (PkStepped p b q r (parkX o M) w) := by
  have e : parkX o M = ({ o with ln := 12, n := (M.V (adP (segF o.sl))) }, ldM M (adP (segF o.sl))) := by unfold parkX; rw [if_neg (by omega), if_neg (by omega), if_neg (by omega), if_neg (by omega), if_neg (by omega), if_neg (by omega), if_neg (by omega), if_neg (by omega), if_neg (by omega), if_neg (by omega), if_pos h]
  rw [e]
  have hne := F.ne (by decide) kq
  have hsl := slot_i64 ok.sl
  have hsg := seg_i64 ok.sl
  have hgen : genP o = gW o.w := if_neg (by omega)
  refine (parkX_no Tryz.call152 (mt_amend r) kq (R := Rn p b r q 182 94 [.int .u8 6, .int .i64 (segF o.sl), .int .i64 1, .int .i64 1, .int .u64 (M.V (adP (segF o.sl))), .bool true] [.iface 180 (.pointer (some ⟨r, 0, none⟩)), .int .i64 o.sl, .int .u32 (genP o), .bool o.st] (ldM M (adP (segF o.sl))) w) (E := [r]) (M := (ldM M (adP (segF o.sl)))) ((count_load (t := 182) (x := (adP (segF o.sl))) (g := 1) hr (by decide) F hs (u := x) (by rw [ctc_P hsg]; exact kr)).mono fun ee X hX => ⟨hX.1, .of kq F (by decide) hqr (by have := hX.2.1; rw [ctc_P hsg] at this; exact this) hX.2.2.1 hX.2.2.2⟩) (fun X hX => hX.use)).mono ?_
  rintro ee w' ⟨rfl, h1, h2, h3, h4⟩
  rw [hgen] at h2
  exact ⟨rfl, r, .inr ⟨_, _, _, .l12 rfl, h2, h1⟩, h3, h4.more (by simp), .inl rfl⟩
theorem pk12_yes (hq : 1 < q) (hr : 1 < r) (hqr : q ≠ r) (F : VX p b M w) (hs : M.s.st < 1000000) (ok : PkNum o) (h : o.ln = 12) (hc : casV M.V (adP (segF o.sl)) o.n = true) (kq : Bq q 94 [.iface 180 (.pointer (some ⟨r, 0, none⟩)), .int .i64 o.sl, .int .u32 (genP o), .bool o.st] w) (kr : Bq r 182 [.int .u8 6, .int .i64 (segF o.sl), .int .i64 1, .int .i64 1, .int .u64 o.n, .bool true] w) :
    Calls Tryz.prog 36 #[.pointer (some ⟨q, 0, none⟩), .pointer (some ⟨p, 0, none⟩)] w (PkStepped p b q r (parkX o M) w) := by
  have e : parkX o M = ({ o with ln := 0 }, csM M (adP (segF o.sl)) o.n (up64 o.n)) := by unfold parkX; rw [if_neg (by omega), if_neg (by omega), if_neg (by omega), if_neg (by omega), if_neg (by omega), if_neg (by omega), if_neg (by omega), if_neg (by omega), if_neg (by omega), if_neg (by omega), if_neg (by omega), if_pos h]; simp [hc]
  rw [e]
  have hne := F.ne (by decide) kq
  have hsl := slot_i64 ok.sl
  have hsg := seg_i64 ok.sl
  have hgen : genP o = gW o.w := if_neg (by omega)
  refine (parkX_end hq Tryz.call152 (mt_amend r) kq (R := Rn p b r q 182 94 [.int .u8 6, .int .i64 (segF o.sl), .int .i64 1, .int .i64 1, .int .u64 o.n, .bool false] [.iface 180 (.pointer (some ⟨r, 0, none⟩)), .int .i64 o.sl, .int .u32 (genP o), .bool o.st] (csM M (adP (segF o.sl)) o.n (up64 o.n)) w) (E := [r]) (M := (csM M (adP (segF o.sl)) o.n (up64 o.n))) ((count_cas (t := 182) (x := (adP (segF o.sl))) (g := 1) hr (by decide) F hs (gg := 1) (v := (up64 o.n)) (by decide) (up_wrap o.n) (up_u64 o.n) (u := o.n) (by rw [ctc_P hsg]; exact kr) (c := true) hc).mono fun ee X hX => ⟨hX.1, .of kq F (by decide) hqr (by have := hX.2.1; rw [ctc_P hsg] at this; exact this) hX.2.2.1 hX.2.2.2⟩) (fun X hX => hX.use) (fun X hX => pkB_amended hX.2.1)).mono ?_
  rintro ee w' ⟨rfl, h1, h2, h3⟩
  exact ⟨rfl, r, .inl ⟨rfl, _, _, h1⟩, h2, h3, .inl rfl⟩
theorem pk12_no (_ : 1 < q) (hr : 1 < r) (hqr : q ≠ r) (F : VX p b M w) (hs : M.s.st < 1000000) (ok : PkNum o) (h : o.ln = 12) (hc : casV M.V (adP (segF o.sl)) o.n = false) (kq : Bq q 94 [.iface 180 (.pointer (some ⟨r, 0, none⟩)), .int .i64 o.sl, .int .u32 (genP o), .bool o.st] w) (kr : Bq r 182 [.int .u8 6, .int .i64 (segF o.sl), .int .i64 1, .int .i64 1, .int .u64 o.n, .bool true] w) :
    Calls Tryz.prog 36 #[.pointer (some ⟨q, 0, none⟩), .pointer (some ⟨p, 0, none⟩)] w (PkStepped p b q r (parkX o M) w) := by
  have e : parkX o M = ({ o with ln := 11 }, csM M (adP (segF o.sl)) o.n (up64 o.n)) := by unfold parkX; rw [if_neg (by omega), if_neg (by omega), if_neg (by omega), if_neg (by omega), if_neg (by omega), if_neg (by omega), if_neg (by omega), if_neg (by omega), if_neg (by omega), if_neg (by omega), if_neg (by omega), if_pos h]; simp [hc]
  rw [e]
  have hne := F.ne (by decide) kq
  have hsl := slot_i64 ok.sl
  have hsg := seg_i64 ok.sl
  have hgen : genP o = gW o.w := if_neg (by omega)
  refine (parkX_no Tryz.call152 (mt_amend r) kq (R := Rn p b r q 182 94 [.int .u8 6, .int .i64 (segF o.sl), .int .i64 1, .int .i64 1, .int .u64 o.n, .bool false] [.iface 180 (.pointer (some ⟨r, 0, none⟩)), .int .i64 o.sl, .int .u32 (genP o), .bool o.st] (csM M (adP (segF o.sl)) o.n (up64 o.n)) w) (E := [r]) (M := (csM M (adP (segF o.sl)) o.n (up64 o.n))) ((count_cas (t := 182) (x := (adP (segF o.sl))) (g := 1) hr (by decide) F hs (gg := 1) (v := (up64 o.n)) (by decide) (up_wrap o.n) (up_u64 o.n) (u := o.n) (by rw [ctc_P hsg]; exact kr) (c := false) hc).mono fun ee X hX => ⟨hX.1, .of kq F (by decide) hqr (by have := hX.2.1; rw [ctc_P hsg] at this; exact this) hX.2.2.1 hX.2.2.2⟩) (fun X hX => hX.use)).mono ?_
  rintro ee w' ⟨rfl, h1, h2, h3, h4⟩
  rw [hgen] at h2
  exact ⟨rfl, r, .inr ⟨_, _, _, .l11 o.n rfl, h2, h1⟩, h3, h4.more (by simp), .inl rfl⟩
/-- A Park's step. -/
theorem park_stepX (hq : 1 < q) (hr : 1 < r) (F : VX p b M w) (hs : M.s.st < 1000000) (ok : PkNum o) (P : PkX q r o w) :
    Calls Tryz.prog 36 #[.pointer (some ⟨q, 0, none⟩), .pointer (some ⟨p, 0, none⟩)] w (PkStepped p b q r (parkX o M) w) := by
  rcases P with ⟨h, s, g, k⟩ | ⟨pt, bt, cs, hp, kq, kr⟩
  · have e : parkX o M = (o, M) := by unfold parkX; rw [if_neg (by omega), if_neg (by omega), if_neg (by omega), if_neg (by omega), if_neg (by omega), if_neg (by omega), if_neg (by omega), if_neg (by omega), if_neg (by omega), if_neg (by omega), if_neg (by omega), if_neg (by omega)]
    rw [e]
    refine (stepPark_over _ k).mono ?_
    rintro ee w' ⟨rfl, rfl⟩
    exact ⟨by rw [h]; rfl, r, .inl ⟨h, s, g, k⟩, F, .refl _, .inl rfl⟩
  · have hqr : q ≠ r := kq.ne kr (Ne.symm hp.ne.1)
    cases hp with
    | l1 h => exact pk1 hq hr hqr F hs ok h kq kr
    | l2 h => exact pk2 hq hr hqr F hs ok h kq kr
    | l3 x h => exact pk3 hq hr hqr F hs ok h kq kr
    | l4 h =>
      by_cases hc : casV M.V (adP (segF o.sl)) o.n = true
      · exact pk4_yes hq hr hqr F hs ok h hc kq kr
      · exact pk4_no hq hr hqr F hs ok h (by simpa using hc) kq kr
    | l6 x h => exact pk6 hq hr hqr F hs ok h kq kr
    | l7 h =>
      by_cases hc : casV M.V (adP (segF o.sl)) o.n = true
      · exact pk7_yes hq hr hqr F hs ok h hc kq kr
      · exact pk7_no hq hr hqr F hs ok h (by simpa using hc) kq kr
    | l11 x h => exact pk11 hq hr hqr F hs ok h kq kr
    | l12 h =>
      by_cases hc : casV M.V (adP (segF o.sl)) o.n = true
      · exact pk12_yes hq hr hqr F hs ok h hc kq kr
      · exact pk12_no hq hr hqr F hs ok h (by simpa using hc) kq kr
    | l5 h =>
      by_cases hc : M.V (adG (segF o.sl)) = 1
      · exact pk5_yes hq hr hqr F hs ok h hc kq kr
      · exact pk5_no hq hr hqr F hs ok h hc kq kr
    | l8 h =>
      by_cases hc : M.V (adG (segF o.sl)) = 1
      · exact pk8_yes hq hr hqr F hs ok h hc kq kr
      · exact pk8_no hq hr hqr F hs ok h hc kq kr
    | l9 h =>
      by_cases hc : casV M.V (adH o.sl) (headerW 3 (gW o.w)) = true
      · exact pk9_yes hq hr hqr F hs ok h hc kq kr
      · exact pk9_no hq hr hqr F hs ok h (by simpa using hc) kq kr
    | l10 h =>
      by_cases hc : (pushX o.psh M).1.nx = 0
      · exact pk10_yes hq hr hqr F hs ok h hc kq kr
      · exact pk10_no hq hr hqr F hs ok h hc kq kr
end
end Go.Proofs.YtlcbinckbkdgdaaGreatDoor
namespace Go.Proofs.YtlcbinckbkdgdaaGreatDoor
open Go.RowKit Go.Maps

/-- A Free, and what it got. -/
structure FX where
  o : FrO
  got : Int
def frX (o : FX) (M : MV) : FX × MV :=
  if o.o.ln = 1 then (⟨{ o.o with ln := 2, w := M.V (adH o.o.sl) }, o.got⟩, ldM M (adH o.o.sl))
  else if o.o.ln = 2 then (⟨{ o.o with ln := if o.o.mo ≤ gW o.o.w then 3 else 5 }, o.got⟩, stM M (adH o.o.sl) (if o.o.mo ≤ gW o.o.w then headerW 4 (gW o.o.w) else headerW 0 (gW o.o.w + 1)))
  else if o.o.ln = 3 then (⟨{ o.o with ln := 4, n := M.V (adP (segF o.o.sl)) }, o.got⟩, ldM M (adP (segF o.o.sl)))
  else if o.o.ln = 4 then (if casV M.V (adP (segF o.o.sl)) o.o.n = true then ⟨{ o.o with ln := 0 }, 4⟩ else ⟨{ o.o with ln := 3 }, o.got⟩, csM M (adP (segF o.o.sl)) o.o.n (up64 o.o.n))
  else if o.o.ln = 5 then (⟨if M.V (adG (segF o.o.sl)) = 2 then { o.o with ln := 6, pk := newPark o.o.sl } else { o.o with ln := 7, psh := ⟨1, 0, o.o.sl⟩ }, o.got⟩, ldM M (adG (segF o.o.sl)))
  else if o.o.ln = 6 then (if (parkX o.o.pk M).1.ln = 0 then ⟨{ o.o with ln := 0, pk := (parkX o.o.pk M).1 }, if (parkX o.o.pk M).1.st = true then 3 else o.got⟩ else ⟨{ o.o with pk := (parkX o.o.pk M).1 }, o.got⟩, (parkX o.o.pk M).2)
  else if o.o.ln = 7 then (⟨{ o.o with ln := if (pushX o.o.psh M).1.nx = 0 then 0 else 7, psh := (pushX o.o.psh M).1 }, o.got⟩, (pushX o.o.psh M).2)
  else (o, M)
/-- Of which numbers it may be. -/
structure FrNum (o : FX) : Prop where
  sl : 0 ≤ o.o.sl ∧ o.o.sl < 256
  mo : 0 ≤ o.o.mo ∧ o.o.mo < 4294967296
  w : U64 o.o.w
  n : U64 o.o.n
  pk : o.o.ln = 6 → PkNum o.o.pk ∧ o.o.pk.ln ≠ 0 ∧ o.o.pk.sl = o.o.sl
  psh : o.o.ln = 7 → U64 o.o.psh.h ∧ 0 ≤ o.o.psh.nx ∧ o.o.psh.nx ≤ 3 ∧ o.o.psh.to = o.o.sl
  got : o.o.ln ≠ 0 → o.got = 0
  ln : 0 ≤ o.o.ln ∧ o.o.ln ≤ 7
/-- The part that it is at. -/
inductive FrPart (o : FX) : TypeId → TypeId → List Value → Prop
  | l1 (h : o.o.ln = 1) : FrPart o 89 125 [.int .u8 9, .int .i64 o.o.sl, .int .i64 0, .int .u64 0]
  | l2 (hm : o.o.mo ≤ gW o.o.w) (h : o.o.ln = 2) : FrPart o 140 144 [.int .u8 9, .int .i64 o.o.sl, .int .i64 0, .int .u64 (headerW 4 (gW o.o.w))]
  | l2b (hm : gW o.o.w < o.o.mo) (h : o.o.ln = 2) : FrPart o 145 146 [.int .u8 9, .int .i64 o.o.sl, .int .i64 0, .int .u64 (headerW 0 (gW o.o.w + 1))]
  | l3 (x : Int) (h : o.o.ln = 3) : FrPart o 147 181 [.int .u8 6, .int .i64 (segF o.o.sl), .int .i64 1, .int .i64 1, .int .u64 x, .bool false]
  | l4 (h : o.o.ln = 4) : FrPart o 147 181 [.int .u8 6, .int .i64 (segF o.o.sl), .int .i64 1, .int .i64 1, .int .u64 o.o.n, .bool true]
  | l5 (h : o.o.ln = 5) : FrPart o 149 151 [.int .u8 6, .int .i64 (segF o.o.sl), .int .i64 0, .int .u64 0]
  | l7 (h : o.o.ln = 7) : FrPart o 106 133 [.int .i64 o.o.psh.nx, .int .u64 o.o.psh.h, .int .i64 o.o.psh.to]
def FrRep (q r r1 : Nat) (o : FX) (w : World) : Prop :=
  (o.o.ln = 0 ∧ ∃ s g, Bq q 88 [.nilIface, .int .i64 s, .int .u32 g, .int .u8 o.got] w) ∨
  (∃ pt bt cs, FrPart o pt bt cs ∧ Bq q 88 [.iface pt (.pointer (some ⟨r, 0, none⟩)), .int .i64 o.o.sl, .int .u32 o.o.mo, .int .u8 0] w ∧ Bq r bt cs w) ∨
  (o.o.ln = 6 ∧ Bq q 88 [.iface 45 (.pointer (some ⟨r, 0, none⟩)), .int .i64 o.o.sl, .int .u32 o.o.mo, .int .u8 0] w ∧ PkX r r1 o.o.pk w)
theorem FrPart.ne {o : FX} {pt bt : TypeId} {cs : List Value} (h : FrPart o pt bt cs) : bt ≠ 88 ∧ bt ≠ 110 := by
  cases h <;> exact ⟨by decide, by decide⟩
theorem PkPart.ne2 {o : PO} {pt bt : TypeId} {cs : List Value} (h : PkPart o pt bt cs) : bt ≠ 88 ∧ bt ≠ 80 := by
  cases h <;> exact ⟨by decide, by decide⟩
/-- What a Free's step leaves. -/
def FrStepped (p b q r r1 : Nat) (R : FX × MV) (w : World) (e : Ending) (w' : World) : Prop := e = .returned (.bool (R.1.o.ln == 0)) ∧ ∃ r' r1', FrRep q r' r1' R.1 w' ∧ VX p b R.2 w' ∧ Onl p b [q, r, r1] w w' ∧ (r' = r ∨ w.heap.size ≤ r') ∧ (r1' = r1 ∨ w.heap.size ≤ r1')
/-- A Park that has just begun. -/
def FreshP (q n s : Nat) (sl : Int) (t : TypeId) (z : Value) (X : World) : Prop := t = 45 ∧ ∃ q1 r1, z = .pointer (some ⟨q1, 0, none⟩) ∧ n ≤ r1 ∧ r1 < q1 ∧ s = n ∧ q < r1 ∧ PkX q1 r1 (newPark sl) X
theorem PkX.setO {q r j : Nat} {o : PO} {w : World} (h : PkX q r o w) (h1 : q ≠ j) (h2 : r ≠ j) (i : Nat) (v : Value) : PkX q r o (w.setCell ⟨j, i, none⟩ v) := by
  rcases h with ⟨h, s, g, k⟩ | ⟨pt, bt, cs, hp, kq, kr⟩
  · exact .inl ⟨h, s, g, k.setO h1 i v⟩
  · exact .inr ⟨pt, bt, cs, hp, kq.setO h1 i v, kr.setO h2 i v⟩
theorem FreshP.set {q n s : Nat} {sl : Int} (t : TypeId) (z : Value) (X : World) (v : Value) (h : FreshP q n s sl t z X) : FreshP q n s sl t z (X.setCell ⟨q, 0, none⟩ v) := by
  obtain ⟨h1, q1, r1, h2, h3, h4, h5, h6, h7⟩ := h
  exact ⟨h1, q1, r1, h2, h3, h4, h5, h6, h7.setO (by omega) (by omega) 0 v⟩
theorem pkx_new {q1 r1 : Nat} {s : Int} {X : World} (h1 : Bq q1 94 [.iface 89 (.pointer (some ⟨r1, 0, none⟩)), .int .i64 s, .int .u32 0, .bool false] X) (h2 : Bq r1 125 [.int .u8 9, .int .i64 s, .int .i64 0, .int .u64 0] X) : PkX q1 r1 (newPark s) X := .inr ⟨_, _, _, .l1 rfl, h1, h2⟩
theorem gen_next {x m : Int} (h : gW x < m) (hm : m < 4294967296) : IntKind.u32.wrap (fld x 3 32 + 1) = fld x 3 32 + 1 := by
  have := (gW_in x).1
  unfold gW at h this
  rw [IntKind.wrap_u32]
  omega
theorem hdrW_next {x m : Int} (h : gW x < m) (hm : m < 4294967296) : U64 (headerW 0 (gW x + 1)) := headerW_u64 0 _ (by decide) ⟨by have := (gW_in x).1; omega, by omega⟩
section
variable {p b q r r1 : Nat} {op : List Value} {o : FX} {M M' : MV} {w w' X : World}
theorem fr1_last (hq : 1 < q) (hr : 1 < r) (hqr : q ≠ r) (F : VX p b M w) (hs : M.s.st < 1000000) (ok : FrNum o) (h : o.o.ln = 1) {r1 : Nat} (hm : o.o.mo ≤ gW (M.V (adH o.o.sl))) (kq : Bq q 88 [.iface 89 (.pointer (some ⟨r, 0, none⟩)), .int .i64 o.o.sl, .int .u32 o.o.mo, .int .u8 0] w) (kr : Bq r 125 [.int .u8 9, .int .i64 o.o.sl, .int .i64 0, .int .u64 0] w) :
    Calls Tryz.prog 20 #[.pointer (some ⟨q, 0, none⟩), .pointer (some ⟨p, 0, none⟩)] w (FrStepped p b q r r1 (frX o M) w) := by
  have e : frX o M = (⟨{ o.o with ln := 2, w := (M.V (adH o.o.sl)) }, o.got⟩, ldM M (adH o.o.sl)) := by unfold frX; rw [if_pos h]
  rw [e]
  have hsl := slot_i64 ok.sl
  have hsg := seg_i64 ok.sl
  refine (freeX_on hq Tryz.call150 (mt_header r) kq (R := Rn p b r q 125 88 [.int .u8 9, .int .i64 o.o.sl, .int .i64 0, .int .u64 (M.V (adH o.o.sl))] [.iface 89 (.pointer (some ⟨r, 0, none⟩)), .int .i64 o.o.sl, .int .u32 o.o.mo, .int .u8 0] (ldM M (adH o.o.sl)) w) (E := [r]) (M := (ldM M (adH o.o.sl))) ((loadLn_step (t := 125) (x := (adH o.o.sl)) hr (by decide) F hs (by rw [ldc_H hsl]; exact kr)).mono fun ee X hX => ⟨hX.1, .of kq F (by decide) hqr (by have := hX.2.1; rw [ldc_H hsl] at this; exact this) hX.2.2.1 hX.2.2.2⟩) (fun X hX => hX.use) (fun X hX => free_fresh (n := w.heap.size) hX.2.2.2.size hX.2.1.lt (frB_head_last hX.2.1 hX.2.2.1.lay (F.u64 _) hm hX.1)) FreshX.set).mono ?_
  rintro ee w' ⟨rfl, t, z, ⟨rfl, r', rfl, h1, h2, h3⟩, h4, h5, h6⟩
  exact ⟨rfl, r', r1, .inr (.inl ⟨_, _, _, .l2 hm rfl, h4, h3⟩), h5, h6.more (by simp), .inr h1, .inl rfl⟩
theorem fr1_again (hq : 1 < q) (hr : 1 < r) (hqr : q ≠ r) (F : VX p b M w) (hs : M.s.st < 1000000) (ok : FrNum o) (h : o.o.ln = 1) {r1 : Nat} (hm : gW (M.V (adH o.o.sl)) < o.o.mo) (kq : Bq q 88 [.iface 89 (.pointer (some ⟨r, 0, none⟩)), .int .i64 o.o.sl, .int .u32 o.o.mo, .int .u8 0] w) (kr : Bq r 125 [.int .u8 9, .int .i64 o.o.sl, .int .i64 0, .int .u64 0] w) :
    Calls Tryz.prog 20 #[.pointer (some ⟨q, 0, none⟩), .pointer (some ⟨p, 0, none⟩)] w (FrStepped p b q r r1 (frX o M) w) := by
  have e : frX o M = (⟨{ o.o with ln := 2, w := (M.V (adH o.o.sl)) }, o.got⟩, ldM M (adH o.o.sl)) := by unfold frX; rw [if_pos h]
  rw [e]
  have hsl := slot_i64 ok.sl
  have hsg := seg_i64 ok.sl
  have hg1 := gW_in (M.V (adH o.o.sl))
  refine (freeX_on hq Tryz.call150 (mt_header r) kq (R := Rn p b r q 125 88 [.int .u8 9, .int .i64 o.o.sl, .int .i64 0, .int .u64 (M.V (adH o.o.sl))] [.iface 89 (.pointer (some ⟨r, 0, none⟩)), .int .i64 o.o.sl, .int .u32 o.o.mo, .int .u8 0] (ldM M (adH o.o.sl)) w) (E := [r]) (M := (ldM M (adH o.o.sl))) ((loadLn_step (t := 125) (x := (adH o.o.sl)) hr (by decide) F hs (by rw [ldc_H hsl]; exact kr)).mono fun ee X hX => ⟨hX.1, .of kq F (by decide) hqr (by have := hX.2.1; rw [ldc_H hsl] at this; exact this) hX.2.2.1 hX.2.2.2⟩) (fun X hX => hX.use) (fun X hX => free_fresh (n := w.heap.size) hX.2.2.2.size hX.2.1.lt (frB_head_again hX.2.1 hX.2.2.1.lay (F.u64 _) hm (gen_next hm ok.mo.2) ⟨by have := hg1.1; unfold gW at this; omega, by have := hg1.2; unfold gW at this; omega⟩ hX.1)) FreshX.set).mono ?_
  rintro ee w' ⟨rfl, t, z, ⟨rfl, r', rfl, h1, h2, h3⟩, h4, h5, h6⟩
  exact ⟨rfl, r', r1, .inr (.inl ⟨_, _, _, .l2b hm rfl, h4, h3⟩), h5, h6.more (by simp), .inr h1, .inl rfl⟩
theorem fr2_last (hq : 1 < q) (_ : 1 < r) (hqr : q ≠ r) (F : VX p b M w) (hs : M.s.st < 1000000) (ok : FrNum o) (h : o.o.ln = 2) {r1 : Nat} (hm : o.o.mo ≤ gW o.o.w) (kq : Bq q 88 [.iface 140 (.pointer (some ⟨r, 0, none⟩)), .int .i64 o.o.sl, .int .u32 o.o.mo, .int .u8 0] w) (kr : Bq r 144 [.int .u8 9, .int .i64 o.o.sl, .int .i64 0, .int .u64 (headerW 4 (gW o.o.w))] w) :
    Calls Tryz.prog 20 #[.pointer (some ⟨q, 0, none⟩), .pointer (some ⟨p, 0, none⟩)] w (FrStepped p b q r r1 (frX o M) w) := by
  have e : frX o M = (⟨{ o.o with ln := 3 }, o.got⟩, stM M (adH o.o.sl) (headerW 4 (gW o.o.w))) := by unfold frX; rw [if_neg (by omega), if_pos h, if_pos hm, if_pos hm]
  rw [e]
  have hsl := slot_i64 ok.sl
  have hsg := seg_i64 ok.sl
  refine (freeX_on hq Tryz.call151 (mt_last r) kq (R := Rn p b r q 144 88 [.int .u8 9, .int .i64 o.o.sl, .int .i64 0, .int .u64 (headerW 4 (gW o.o.w))] [.iface 140 (.pointer (some ⟨r, 0, none⟩)), .int .i64 o.o.sl, .int .u32 o.o.mo, .int .u8 0] (stM M (adH o.o.sl) (headerW 4 (gW o.o.w))) w) (E := [r]) (M := (stM M (adH o.o.sl) (headerW 4 (gW o.o.w)))) ((storeLn_step (t := 144) (x := (adH o.o.sl)) (by decide) F hs (hdrW_u64 o.o.w (by decide)) (by rw [ldc_H hsl]; exact kr)).mono fun ee X hX => ⟨hX.1, .of kq F (by decide) hqr (by have := hX.2.1; rw [ldc_H hsl] at this; exact this) hX.2.2.1 (hX.2.2.2.more (by simp))⟩) (fun X hX => hX.use) (fun X hX => free_fresh (n := w.heap.size) hX.2.2.2.size hX.2.1.lt (frB_last hX.2.1 (seg_quo ok.sl) (seg_wrap ok.sl))) FreshX.set).mono ?_
  rintro ee w' ⟨rfl, t, z, ⟨rfl, r', rfl, h1, h2, h3⟩, h4, h5, h6⟩
  exact ⟨rfl, r', r1, .inr (.inl ⟨_, _, _, .l3 0 rfl, h4, h3⟩), h5, h6.more (by simp), .inr h1, .inl rfl⟩
theorem fr2_again (hq : 1 < q) (_ : 1 < r) (hqr : q ≠ r) (F : VX p b M w) (hs : M.s.st < 1000000) (ok : FrNum o) (h : o.o.ln = 2) {r1 : Nat} (hm : gW o.o.w < o.o.mo) (kq : Bq q 88 [.iface 145 (.pointer (some ⟨r, 0, none⟩)), .int .i64 o.o.sl, .int .u32 o.o.mo, .int .u8 0] w) (kr : Bq r 146 [.int .u8 9, .int .i64 o.o.sl, .int .i64 0, .int .u64 (headerW 0 (gW o.o.w + 1))] w) :
    Calls Tryz.prog 20 #[.pointer (some ⟨q, 0, none⟩), .pointer (some ⟨p, 0, none⟩)] w (FrStepped p b q r r1 (frX o M) w) := by
  have e : frX o M = (⟨{ o.o with ln := 5 }, o.got⟩, stM M (adH o.o.sl) (headerW 0 (gW o.o.w + 1))) := by unfold frX; rw [if_neg (by omega), if_pos h, if_neg (by omega), if_neg (by omega)]
  rw [e]
  have hsl := slot_i64 ok.sl
  have hsg := seg_i64 ok.sl
  refine (freeX_on hq Tryz.call151 (mt_again r) kq (R := Rn p b r q 146 88 [.int .u8 9, .int .i64 o.o.sl, .int .i64 0, .int .u64 (headerW 0 (gW o.o.w + 1))] [.iface 145 (.pointer (some ⟨r, 0, none⟩)), .int .i64 o.o.sl, .int .u32 o.o.mo, .int .u8 0] (stM M (adH o.o.sl) (headerW 0 (gW o.o.w + 1))) w) (E := [r]) (M := (stM M (adH o.o.sl) (headerW 0 (gW o.o.w + 1)))) ((storeLn_step (t := 146) (x := (adH o.o.sl)) (by decide) F hs (hdrW_next hm ok.mo.2) (by rw [ldc_H hsl]; exact kr)).mono fun ee X hX => ⟨hX.1, .of kq F (by decide) hqr (by have := hX.2.1; rw [ldc_H hsl] at this; exact this) hX.2.2.1 (hX.2.2.2.more (by simp))⟩) (fun X hX => hX.use) (fun X hX => free_fresh (n := w.heap.size) hX.2.2.2.size hX.2.1.lt (frB_again hX.2.1 (seg_quo ok.sl) (seg_wrap ok.sl))) FreshX.set).mono ?_
  rintro ee w' ⟨rfl, t, z, ⟨rfl, r', rfl, h1, h2, h3⟩, h4, h5, h6⟩
  exact ⟨rfl, r', r1, .inr (.inl ⟨_, _, _, .l5 rfl, h4, h3⟩), h5, h6.more (by simp), .inr h1, .inl rfl⟩
theorem fr3 (_ : 1 < q) (hr : 1 < r) (hqr : q ≠ r) (F : VX p b M w) (hs : M.s.st < 1000000) (ok : FrNum o) (h : o.o.ln = 3) {x : Int} {r1 : Nat} (kq : Bq q 88 [.iface 147 (.pointer (some ⟨r, 0, none⟩)), .int .i64 o.o.sl, .int .u32 o.o.mo, .int .u8 0] w) (kr : Bq r 181 [.int .u8 6, .int .i64 (segF o.o.sl), .int .i64 1, .int .i64 1, .int .u64 x, .bool false] w) :
    Calls Tryz.prog 20 #[.pointer (some ⟨q, 0, none⟩), .pointer (some ⟨p, 0, none⟩)] w (FrStepped p b q r r1 (frX o M) w) := by
  have e : frX o M = (⟨{ o.o with ln := 4, n := (M.V (adP (segF o.o.sl))) }, o.got⟩, ldM M (adP (segF o.o.sl))) := by unfold frX; rw [if_neg (by omega), if_neg (by omega), if_pos h]
  rw [e]
  have hsl := slot_i64 ok.sl
  have hsg := seg_i64 ok.sl
  refine (freeX_no Tryz.call152 (mt_aside r) kq (R := Rn p b r q 181 88 [.int .u8 6, .int .i64 (segF o.o.sl), .int .i64 1, .int .i64 1, .int .u64 (M.V (adP (segF o.o.sl))), .bool true] [.iface 147 (.pointer (some ⟨r, 0, none⟩)), .int .i64 o.o.sl, .int .u32 o.o.mo, .int .u8 0] (ldM M (adP (segF o.o.sl))) w) (E := [r]) (M := (ldM M (adP (segF o.o.sl)))) ((count_load (t := 181) (x := (adP (segF o.o.sl))) (g := 1) hr (by decide) F hs (u := x) (by rw [ctc_P hsg]; exact kr)).mono fun ee X hX => ⟨hX.1, .of kq F (by decide) hqr (by have := hX.2.1; rw [ctc_P hsg] at this; exact this) hX.2.2.1 hX.2.2.2⟩) (fun X hX => hX.use)).mono ?_
  rintro ee w' ⟨rfl, h1, h2, h3, h4⟩
  exact ⟨rfl, r, r1, .inr (.inl ⟨_, _, _, .l4 rfl, h2, h1⟩), h3, h4.more (by simp), .inl rfl, .inl rfl⟩
theorem fr4_yes (hq : 1 < q) (hr : 1 < r) (hqr : q ≠ r) (F : VX p b M w) (hs : M.s.st < 1000000) (ok : FrNum o) (h : o.o.ln = 4) {r1 : Nat} (hc : casV M.V (adP (segF o.o.sl)) o.o.n = true) (kq : Bq q 88 [.iface 147 (.pointer (some ⟨r, 0, none⟩)), .int .i64 o.o.sl, .int .u32 o.o.mo, .int .u8 0] w) (kr : Bq r 181 [.int .u8 6, .int .i64 (segF o.o.sl), .int .i64 1, .int .i64 1, .int .u64 o.o.n, .bool true] w) :
    Calls Tryz.prog 20 #[.pointer (some ⟨q, 0, none⟩), .pointer (some ⟨p, 0, none⟩)] w (FrStepped p b q r r1 (frX o M) w) := by
  have e : frX o M = (⟨{ o.o with ln := 0 }, 4⟩, csM M (adP (segF o.o.sl)) o.o.n (up64 o.o.n)) := by unfold frX; rw [if_neg (by omega), if_neg (by omega), if_neg (by omega), if_pos h]; simp [hc]
  rw [e]
  have hsl := slot_i64 ok.sl
  have hsg := seg_i64 ok.sl
  refine (freeX_end hq Tryz.call152 (mt_aside r) kq (R := Rn p b r q 181 88 [.int .u8 6, .int .i64 (segF o.o.sl), .int .i64 1, .int .i64 1, .int .u64 o.o.n, .bool false] [.iface 147 (.pointer (some ⟨r, 0, none⟩)), .int .i64 o.o.sl, .int .u32 o.o.mo, .int .u8 0] (csM M (adP (segF o.o.sl)) o.o.n (up64 o.o.n)) w) (E := [r]) (M := (csM M (adP (segF o.o.sl)) o.o.n (up64 o.o.n))) ((count_cas (t := 181) (x := (adP (segF o.o.sl))) (g := 1) hr (by decide) F hs (gg := 1) (v := (up64 o.o.n)) (by decide) (up_wrap o.o.n) (up_u64 o.o.n) (u := o.o.n) (by rw [ctc_P hsg]; exact kr) (c := true) hc).mono fun ee X hX => ⟨hX.1, .of kq F (by decide) hqr (by have := hX.2.1; rw [ctc_P hsg] at this; exact this) hX.2.2.1 hX.2.2.2⟩) (fun X hX => hX.use) (fun X hX => frB_gone hX.2.1)).mono ?_
  rintro ee w' ⟨rfl, h1, h2, h3⟩
  exact ⟨rfl, r, r1, .inl ⟨rfl, _, _, h1⟩, h2, h3.more (by simp), .inl rfl, .inl rfl⟩
theorem fr4_no (_ : 1 < q) (hr : 1 < r) (hqr : q ≠ r) (F : VX p b M w) (hs : M.s.st < 1000000) (ok : FrNum o) (h : o.o.ln = 4) {r1 : Nat} (hc : casV M.V (adP (segF o.o.sl)) o.o.n = false) (kq : Bq q 88 [.iface 147 (.pointer (some ⟨r, 0, none⟩)), .int .i64 o.o.sl, .int .u32 o.o.mo, .int .u8 0] w) (kr : Bq r 181 [.int .u8 6, .int .i64 (segF o.o.sl), .int .i64 1, .int .i64 1, .int .u64 o.o.n, .bool true] w) :
    Calls Tryz.prog 20 #[.pointer (some ⟨q, 0, none⟩), .pointer (some ⟨p, 0, none⟩)] w (FrStepped p b q r r1 (frX o M) w) := by
  have e : frX o M = (⟨{ o.o with ln := 3 }, o.got⟩, csM M (adP (segF o.o.sl)) o.o.n (up64 o.o.n)) := by unfold frX; rw [if_neg (by omega), if_neg (by omega), if_neg (by omega), if_pos h]; simp [hc]
  rw [e]
  have hsl := slot_i64 ok.sl
  have hsg := seg_i64 ok.sl
  refine (freeX_no Tryz.call152 (mt_aside r) kq (R := Rn p b r q 181 88 [.int .u8 6, .int .i64 (segF o.o.sl), .int .i64 1, .int .i64 1, .int .u64 o.o.n, .bool false] [.iface 147 (.pointer (some ⟨r, 0, none⟩)), .int .i64 o.o.sl, .int .u32 o.o.mo, .int .u8 0] (csM M (adP (segF o.o.sl)) o.o.n (up64 o.o.n)) w) (E := [r]) (M := (csM M (adP (segF o.o.sl)) o.o.n (up64 o.o.n))) ((count_cas (t := 181) (x := (adP (segF o.o.sl))) (g := 1) hr (by decide) F hs (gg := 1) (v := (up64 o.o.n)) (by decide) (up_wrap o.o.n) (up_u64 o.o.n) (u := o.o.n) (by rw [ctc_P hsg]; exact kr) (c := false) hc).mono fun ee X hX => ⟨hX.1, .of kq F (by decide) hqr (by have := hX.2.1; rw [ctc_P hsg] at this; exact this) hX.2.2.1 hX.2.2.2⟩) (fun X hX => hX.use)).mono ?_
  rintro ee w' ⟨rfl, h1, h2, h3, h4⟩
  exact ⟨rfl, r, r1, .inr (.inl ⟨_, _, _, .l3 o.o.n rfl, h2, h1⟩), h3, h4.more (by simp), .inl rfl, .inl rfl⟩
theorem fr5_yes (hq : 1 < q) (hr : 1 < r) (hqr : q ≠ r) (F : VX p b M w) (hs : M.s.st < 1000000) (ok : FrNum o) (h : o.o.ln = 5) {r1 : Nat} (hc : M.V (adG (segF o.o.sl)) = 2) (kq : Bq q 88 [.iface 149 (.pointer (some ⟨r, 0, none⟩)), .int .i64 o.o.sl, .int .u32 o.o.mo, .int .u8 0] w) (kr : Bq r 151 [.int .u8 6, .int .i64 (segF o.o.sl), .int .i64 0, .int .u64 0] w) :
    Calls Tryz.prog 20 #[.pointer (some ⟨q, 0, none⟩), .pointer (some ⟨p, 0, none⟩)] w (FrStepped p b q r r1 (frX o M) w) := by
  have e : frX o M = (⟨{ o.o with ln := 6, pk := newPark o.o.sl }, o.got⟩, ldM M (adG (segF o.o.sl))) := by unfold frX; rw [if_neg (by omega), if_neg (by omega), if_neg (by omega), if_neg (by omega), if_pos h]; simp [hc]
  rw [e]
  have hsl := slot_i64 ok.sl
  have hsg := seg_i64 ok.sl
  refine (freeX_on hq Tryz.call150 (mt_state r) kq (R := Rn p b r q 151 88 [.int .u8 6, .int .i64 (segF o.o.sl), .int .i64 0, .int .u64 (M.V (adG (segF o.o.sl)))] [.iface 149 (.pointer (some ⟨r, 0, none⟩)), .int .i64 o.o.sl, .int .u32 o.o.mo, .int .u8 0] (ldM M (adG (segF o.o.sl))) w) (E := [r]) (M := (ldM M (adG (segF o.o.sl)))) ((loadLn_step (t := 151) (x := (adG (segF o.o.sl))) hr (by decide) F hs (by rw [ldc_G hsg]; exact kr)).mono fun ee X hX => ⟨hX.1, .of kq F (by decide) hqr (by have := hX.2.1; rw [ldc_G hsg] at this; exact this) hX.2.2.1 hX.2.2.2⟩) (fun X hX => hX.use) (S := FreshP q w.heap.size w.heap.size o.o.sl) (u1 := .int .i64 o.o.sl) (u2 := .int .u32 o.o.mo) (u3 := .int .u8 0) (fun X hX => (frB_park hX.2.1 ok.sl.1 ok.sl.2 hX.1 (by simpa using hc)).mono ?_) FreshP.set).mono ?_
  · rintro ee X' ⟨q1, r2, rfl, h1, h2, h3, h4, h5, h6⟩
    exact ⟨_, _, rfl, ⟨rfl, q1, r2, rfl, Nat.le_trans hX.2.2.2.size h1, h2, rfl, Nat.lt_of_lt_of_le hX.2.1.lt h1, pkx_new h3 h4⟩, h5, h6⟩
  · rintro ee w' ⟨rfl, t, z, ⟨rfl, q1, r2, rfl, h1, h2, _, _, h3⟩, h4, h5, h6⟩
    exact ⟨rfl, q1, r2, .inr (.inr ⟨rfl, h4, h3⟩), h5, h6.more (by simp), .inr (by omega), .inr h1⟩
theorem fr5_no (hq : 1 < q) (hr : 1 < r) (hqr : q ≠ r) (F : VX p b M w) (hs : M.s.st < 1000000) (ok : FrNum o) (h : o.o.ln = 5) {r1 : Nat} (hc : M.V (adG (segF o.o.sl)) ≠ 2) (kq : Bq q 88 [.iface 149 (.pointer (some ⟨r, 0, none⟩)), .int .i64 o.o.sl, .int .u32 o.o.mo, .int .u8 0] w) (kr : Bq r 151 [.int .u8 6, .int .i64 (segF o.o.sl), .int .i64 0, .int .u64 0] w) :
    Calls Tryz.prog 20 #[.pointer (some ⟨q, 0, none⟩), .pointer (some ⟨p, 0, none⟩)] w (FrStepped p b q r r1 (frX o M) w) := by
  have e : frX o M = (⟨{ o.o with ln := 7, psh := ⟨1, 0, o.o.sl⟩ }, o.got⟩, ldM M (adG (segF o.o.sl))) := by unfold frX; rw [if_neg (by omega), if_neg (by omega), if_neg (by omega), if_neg (by omega), if_pos h]; simp [hc]
  rw [e]
  have hsl := slot_i64 ok.sl
  have hsg := seg_i64 ok.sl
  refine (freeX_on hq Tryz.call150 (mt_state r) kq (R := Rn p b r q 151 88 [.int .u8 6, .int .i64 (segF o.o.sl), .int .i64 0, .int .u64 (M.V (adG (segF o.o.sl)))] [.iface 149 (.pointer (some ⟨r, 0, none⟩)), .int .i64 o.o.sl, .int .u32 o.o.mo, .int .u8 0] (ldM M (adG (segF o.o.sl))) w) (E := [r]) (M := (ldM M (adG (segF o.o.sl)))) ((loadLn_step (t := 151) (x := (adG (segF o.o.sl))) hr (by decide) F hs (by rw [ldc_G hsg]; exact kr)).mono fun ee X hX => ⟨hX.1, .of kq F (by decide) hqr (by have := hX.2.1; rw [ldc_G hsg] at this; exact this) hX.2.2.1 hX.2.2.2⟩) (fun X hX => hX.use) (fun X hX => free_fresh (n := w.heap.size) hX.2.2.2.size hX.2.1.lt (frB_push hX.2.1 ok.sl.1 ok.sl.2 hX.1 (by simpa using hc))) FreshX.set).mono ?_
  rintro ee w' ⟨rfl, t, z, ⟨rfl, r', rfl, h1, h2, h3⟩, h4, h5, h6⟩
  exact ⟨rfl, r', r1, .inr (.inl ⟨_, _, _, .l7 rfl, h4, h3⟩), h5, h6.more (by simp), .inr h1, .inl rfl⟩
theorem fr7_yes (hq : 1 < q) (hr : 1 < r) (hqr : q ≠ r) (F : VX p b M w) (hs : M.s.st < 1000000) (ok : FrNum o) (h : o.o.ln = 7) {r1 : Nat} (hc : (pushX o.o.psh M).1.nx = 0) (kq : Bq q 88 [.iface 106 (.pointer (some ⟨r, 0, none⟩)), .int .i64 o.o.sl, .int .u32 o.o.mo, .int .u8 0] w) (kr : Bq r 133 [.int .i64 o.o.psh.nx, .int .u64 o.o.psh.h, .int .i64 o.o.psh.to] w) :
    Calls Tryz.prog 20 #[.pointer (some ⟨q, 0, none⟩), .pointer (some ⟨p, 0, none⟩)] w (FrStepped p b q r r1 (frX o M) w) := by
  have e : frX o M = (⟨{ o.o with ln := 0, psh := (pushX o.o.psh M).1 }, o.got⟩, (pushX o.o.psh M).2) := by unfold frX; rw [if_neg (by omega), if_neg (by omega), if_neg (by omega), if_neg (by omega), if_neg (by omega), if_neg (by omega), if_pos h]; simp [hc]
  rw [e]
  have hsl := slot_i64 ok.sl
  have hsg := seg_i64 ok.sl
  have hgo := ok.got (by omega)
  refine (freeX_end hq Tryz.call43 (mt_Push r) kq (R := Rn p b r q 133 88 [.int .i64 (pushX o.o.psh M).1.nx, .int .u64 (pushX o.o.psh M).1.h, .int .i64 (pushX o.o.psh M).1.to] [.iface 106 (.pointer (some ⟨r, 0, none⟩)), .int .i64 o.o.sl, .int .u32 o.o.mo, .int .u8 0] (pushX o.o.psh M).2 w) (E := [r]) (M := (pushX o.o.psh M).2) ((push_stepX hr F hs (ok.psh h).1 ⟨(ok.psh h).2.1, (ok.psh h).2.2.1⟩ (fun _ => by rw [(ok.psh h).2.2.2]; exact hsl) kr).mono fun ee X hX => ⟨by rw [hX.1]; simp [hc], .of kq F (by decide) hqr hX.2.1 hX.2.2.1 (.of_only3 hX.2.2.2 (by simp))⟩) (fun X hX => hX.use) (fun X hX => frB_pushed hX.2.1)).mono ?_
  rintro ee w' ⟨rfl, h1, h2, h3⟩
  exact ⟨rfl, r, r1, .inl ⟨rfl, _, _, by rw [hgo]; exact h1⟩, h2, h3.more (by simp), .inl rfl, .inl rfl⟩
theorem fr7_no (_ : 1 < q) (hr : 1 < r) (hqr : q ≠ r) (F : VX p b M w) (hs : M.s.st < 1000000) (ok : FrNum o) (h : o.o.ln = 7) {r1 : Nat} (hc : (pushX o.o.psh M).1.nx ≠ 0) (kq : Bq q 88 [.iface 106 (.pointer (some ⟨r, 0, none⟩)), .int .i64 o.o.sl, .int .u32 o.o.mo, .int .u8 0] w) (kr : Bq r 133 [.int .i64 o.o.psh.nx, .int .u64 o.o.psh.h, .int .i64 o.o.psh.to] w) :
    Calls Tryz.prog 20 #[.pointer (some ⟨q, 0, none⟩), .pointer (some ⟨p, 0, none⟩)] w (FrStepped p b q r r1 (frX o M) w) := by
  have e : frX o M = (⟨{ o.o with ln := 7, psh := (pushX o.o.psh M).1 }, o.got⟩, (pushX o.o.psh M).2) := by unfold frX; rw [if_neg (by omega), if_neg (by omega), if_neg (by omega), if_neg (by omega), if_neg (by omega), if_neg (by omega), if_pos h]; simp [hc]
  rw [e]
  have hsl := slot_i64 ok.sl
  have hsg := seg_i64 ok.sl
  refine (freeX_no Tryz.call43 (mt_Push r) kq (R := Rn p b r q 133 88 [.int .i64 (pushX o.o.psh M).1.nx, .int .u64 (pushX o.o.psh M).1.h, .int .i64 (pushX o.o.psh M).1.to] [.iface 106 (.pointer (some ⟨r, 0, none⟩)), .int .i64 o.o.sl, .int .u32 o.o.mo, .int .u8 0] (pushX o.o.psh M).2 w) (E := [r]) (M := (pushX o.o.psh M).2) ((push_stepX hr F hs (ok.psh h).1 ⟨(ok.psh h).2.1, (ok.psh h).2.2.1⟩ (fun _ => by rw [(ok.psh h).2.2.2]; exact hsl) kr).mono fun ee X hX => ⟨by rw [hX.1]; simp [hc], .of kq F (by decide) hqr hX.2.1 hX.2.2.1 (.of_only3 hX.2.2.2 (by simp))⟩) (fun X hX => hX.use)).mono ?_
  rintro ee w' ⟨rfl, h1, h2, h3, h4⟩
  exact ⟨rfl, r, r1, .inr (.inl ⟨_, _, _, .l7 rfl, h2, h1⟩), h3, h4.more (by simp), .inl rfl, .inl rfl⟩
theorem free_park_part (hr : 1 < r) (hr1 : 1 < r1) (F : VX p b M w) (hs : M.s.st < 1000000) (ok : PkNum o.o.pk) (kq : Bq q 88 [.iface 45 (.pointer (some ⟨r, 0, none⟩)), .int .i64 o.o.sl, .int .u32 o.o.mo, .int .u8 0] w) (P : PkX r r1 o.o.pk w) (hqr : q ≠ r) (hq1 : q ≠ r1) :
    Calls Tryz.prog 36 #[.pointer (some ⟨r, 0, none⟩), .pointer (some ⟨p, 0, none⟩)] w fun e w1 => e = .returned (.bool ((parkX o.o.pk M).1.ln == 0)) ∧ (fun X => ∃ r2, PkX r r2 (parkX o.o.pk M).1 X ∧ (r2 = r1 ∨ w.heap.size ≤ r2) ∧ Bq q 88 [.iface 45 (.pointer (some ⟨r, 0, none⟩)), .int .i64 o.o.sl, .int .u32 o.o.mo, .int .u8 0] X ∧ VX p b (parkX o.o.pk M).2 X ∧ Onl p b [r, r1] w X) w1 := by
  refine (park_stepX hr hr1 F hs ok P).mono ?_
  rintro ee X ⟨rfl, r2, h1, h2, h3, h4⟩
  have hne := F.ne (by decide) kq
  exact ⟨rfl, r2, h1, h4, kq.onl h3 hne.1 hne.2 (by simp; exact ⟨hqr, hq1⟩), h2, h3⟩
theorem free_park_use {X : World} (h : (fun X => ∃ r2, PkX r r2 (parkX o.o.pk M).1 X ∧ (r2 = r1 ∨ w.heap.size ≤ r2) ∧ Bq q 88 [.iface 45 (.pointer (some ⟨r, 0, none⟩)), .int .i64 o.o.sl, .int .u32 o.o.mo, .int .u8 0] X ∧ VX p b (parkX o.o.pk M).2 X ∧ Onl p b [r, r1] w X) X) : Bq q 88 [.iface 45 (.pointer (some ⟨r, 0, none⟩)), .int .i64 o.o.sl, .int .u32 o.o.mo, .int .u8 0] X ∧ VX p b (parkX o.o.pk M).2 X ∧ Onl p b [r, r1] w X := by
  obtain ⟨r2, _, _, h3, h4, h5⟩ := h
  exact ⟨h3, h4, h5⟩
theorem PkX.over {q r : Nat} {o : PO} {w : World} (h : PkX q r o w) (h0 : o.ln = 0) : ∃ s g, Bq q 94 [.nilIface, .int .i64 s, .int .u32 g, .bool o.st] w := by
  rcases h with ⟨_, s, g, k⟩ | ⟨pt, bt, cs, hp, _⟩
  · exact ⟨s, g, k⟩
  · exact absurd h0 hp.ne.2.2
theorem fr6_true (hq : 1 < q) (hr : 1 < r) (hr1 : 1 < r1) (hqr : q ≠ r) (hq1 : q ≠ r1) (F : VX p b M w) (hs : M.s.st < 1000000) (ok : FrNum o) (h : o.o.ln = 6) (hc : (parkX o.o.pk M).1.ln = 0) (hst : (parkX o.o.pk M).1.st = true) (kq : Bq q 88 [.iface 45 (.pointer (some ⟨r, 0, none⟩)), .int .i64 o.o.sl, .int .u32 o.o.mo, .int .u8 0] w) (P : PkX r r1 o.o.pk w) :
    Calls Tryz.prog 20 #[.pointer (some ⟨q, 0, none⟩), .pointer (some ⟨p, 0, none⟩)] w (FrStepped p b q r r1 (frX o M) w) := by
  have hgo := ok.got (by omega)
  have e : frX o M = (⟨{ o.o with ln := 0, pk := (parkX o.o.pk M).1 }, 3⟩, (parkX o.o.pk M).2) := by unfold frX; rw [if_neg (by omega), if_neg (by omega), if_neg (by omega), if_neg (by omega), if_neg (by omega), if_pos h]; simp [hc, hst]
  rw [e]
  have hpt := (free_park_part hr hr1 F hs (ok.pk h).1 kq P hqr hq1)
  refine (freeX_end hq Tryz.call36 (mt_Park r) kq (R := (fun X => ∃ r2, PkX r r2 (parkX o.o.pk M).1 X ∧ (r2 = r1 ∨ w.heap.size ≤ r2) ∧ Bq q 88 [.iface 45 (.pointer (some ⟨r, 0, none⟩)), .int .i64 o.o.sl, .int .u32 o.o.mo, .int .u8 0] X ∧ VX p b (parkX o.o.pk M).2 X ∧ Onl p b [r, r1] w X)) (E := [r, r1]) (M := (parkX o.o.pk M).2) (u1 := .int .i64 o.o.sl) (u2 := .int .u32 o.o.mo) (u3 := .int .u8 3) (hpt.mono fun ee X hX => ⟨by rw [hX.1, hc]; rfl, hX.2⟩) (fun X hX => free_park_use hX) (fun X hX => ?_)).mono ?_
  · obtain ⟨r2, g1, _, g3, _⟩ := hX
    obtain ⟨s, g, kk⟩ := g1.over hc
    rw [hst] at kk
    exact frB_parked g3 kk
  · rintro ee w' ⟨rfl, h1, h2, h3⟩
    exact ⟨rfl, r, r1, .inl ⟨rfl, _, _, h1⟩, h2, h3, .inl rfl, .inl rfl⟩
theorem fr6_false (hq : 1 < q) (hr : 1 < r) (hr1 : 1 < r1) (hqr : q ≠ r) (hq1 : q ≠ r1) (F : VX p b M w) (hs : M.s.st < 1000000) (ok : FrNum o) (h : o.o.ln = 6) (hc : (parkX o.o.pk M).1.ln = 0) (hst : (parkX o.o.pk M).1.st = false) (kq : Bq q 88 [.iface 45 (.pointer (some ⟨r, 0, none⟩)), .int .i64 o.o.sl, .int .u32 o.o.mo, .int .u8 0] w) (P : PkX r r1 o.o.pk w) :
    Calls Tryz.prog 20 #[.pointer (some ⟨q, 0, none⟩), .pointer (some ⟨p, 0, none⟩)] w (FrStepped p b q r r1 (frX o M) w) := by
  have hgo := ok.got (by omega)
  have e : frX o M = (⟨{ o.o with ln := 0, pk := (parkX o.o.pk M).1 }, o.got⟩, (parkX o.o.pk M).2) := by unfold frX; rw [if_neg (by omega), if_neg (by omega), if_neg (by omega), if_neg (by omega), if_neg (by omega), if_pos h]; simp [hc, hst]
  rw [e]
  have hpt := (free_park_part hr hr1 F hs (ok.pk h).1 kq P hqr hq1)
  refine (freeX_end hq Tryz.call36 (mt_Park r) kq (R := (fun X => ∃ r2, PkX r r2 (parkX o.o.pk M).1 X ∧ (r2 = r1 ∨ w.heap.size ≤ r2) ∧ Bq q 88 [.iface 45 (.pointer (some ⟨r, 0, none⟩)), .int .i64 o.o.sl, .int .u32 o.o.mo, .int .u8 0] X ∧ VX p b (parkX o.o.pk M).2 X ∧ Onl p b [r, r1] w X)) (E := [r, r1]) (M := (parkX o.o.pk M).2) (u1 := .int .i64 o.o.sl) (u2 := .int .u32 o.o.mo) (u3 := .int .u8 0) (hpt.mono fun ee X hX => ⟨by rw [hX.1, hc]; rfl, hX.2⟩) (fun X hX => free_park_use hX) (fun X hX => ?_)).mono ?_
  · obtain ⟨r2, g1, _, g3, _⟩ := hX
    obtain ⟨s, g, kk⟩ := g1.over hc
    rw [hst] at kk
    exact frB_unparked g3 kk
  · rintro ee w' ⟨rfl, h1, h2, h3⟩
    exact ⟨rfl, r, r1, .inl ⟨rfl, _, _, by rw [hgo]; exact h1⟩, h2, h3, .inl rfl, .inl rfl⟩
theorem fr6_no (_ : 1 < q) (hr : 1 < r) (hr1 : 1 < r1) (hqr : q ≠ r) (hq1 : q ≠ r1) (F : VX p b M w) (hs : M.s.st < 1000000) (ok : FrNum o) (h : o.o.ln = 6) (hc : (parkX o.o.pk M).1.ln ≠ 0) (kq : Bq q 88 [.iface 45 (.pointer (some ⟨r, 0, none⟩)), .int .i64 o.o.sl, .int .u32 o.o.mo, .int .u8 0] w) (P : PkX r r1 o.o.pk w) :
    Calls Tryz.prog 20 #[.pointer (some ⟨q, 0, none⟩), .pointer (some ⟨p, 0, none⟩)] w (FrStepped p b q r r1 (frX o M) w) := by
  have e : frX o M = (⟨{ o.o with pk := (parkX o.o.pk M).1 }, o.got⟩, (parkX o.o.pk M).2) := by unfold frX; rw [if_neg (by omega), if_neg (by omega), if_neg (by omega), if_neg (by omega), if_neg (by omega), if_pos h]; simp [hc]
  rw [e]
  have hpt := (free_park_part hr hr1 F hs (ok.pk h).1 kq P hqr hq1)
  refine (freeX_no Tryz.call36 (mt_Park r) kq (R := (fun X => ∃ r2, PkX r r2 (parkX o.o.pk M).1 X ∧ (r2 = r1 ∨ w.heap.size ≤ r2) ∧ Bq q 88 [.iface 45 (.pointer (some ⟨r, 0, none⟩)), .int .i64 o.o.sl, .int .u32 o.o.mo, .int .u8 0] X ∧ VX p b (parkX o.o.pk M).2 X ∧ Onl p b [r, r1] w X)) (E := [r, r1]) (M := (parkX o.o.pk M).2) (hpt.mono fun ee X hX => ⟨by rw [hX.1, fls hc], hX.2⟩) (fun X hX => free_park_use hX)).mono ?_
  rintro ee w' ⟨rfl, r2, h1, h2, h3, h4, h5⟩
  exact ⟨by show _ = Ending.returned (.bool (o.o.ln == 0)); rw [h]; rfl, r, r2, .inr (.inr ⟨h, h3, h1⟩), h4, h5.more (by simp), .inl rfl, h2⟩
/-- A Free's step. -/
theorem free_stepX (hq : 1 < q) (hr : 1 < r) (hr1 : 1 < r1) (F : VX p b M w) (hs : M.s.st < 1000000) (ok : FrNum o) (P : FrRep q r r1 o w) :
    Calls Tryz.prog 20 #[.pointer (some ⟨q, 0, none⟩), .pointer (some ⟨p, 0, none⟩)] w (FrStepped p b q r r1 (frX o M) w) := by
  rcases P with ⟨h, s, g, k⟩ | ⟨pt, bt, cs, hp, kq, kr⟩ | ⟨h, kq, P⟩
  · have e : frX o M = (o, M) := by unfold frX; rw [if_neg (by omega), if_neg (by omega), if_neg (by omega), if_neg (by omega), if_neg (by omega), if_neg (by omega), if_neg (by omega)]
    rw [e]
    refine (stepFree_over _ k).mono ?_
    rintro ee w' ⟨rfl, rfl⟩
    exact ⟨by rw [h]; rfl, r, r1, .inl ⟨h, s, g, k⟩, F, .refl _, .inl rfl, .inl rfl⟩
  · have hqr : q ≠ r := kq.ne kr (Ne.symm hp.ne.1)
    cases hp with
    | l1 h =>
      by_cases hm : o.o.mo ≤ gW (M.V (adH o.o.sl))
      · exact fr1_last hq hr hqr F hs ok h hm kq kr
      · exact fr1_again hq hr hqr F hs ok h (by omega) kq kr
    | l2 hm h => exact fr2_last hq hr hqr F hs ok h hm kq kr
    | l2b hm h => exact fr2_again hq hr hqr F hs ok h hm kq kr
    | l3 x h => exact fr3 hq hr hqr F hs ok h kq kr
    | l4 h =>
      by_cases hc : casV M.V (adP (segF o.o.sl)) o.o.n = true
      · exact fr4_yes hq hr hqr F hs ok h hc kq kr
      · exact fr4_no hq hr hqr F hs ok h (by simpa using hc) kq kr
    | l5 h =>
      by_cases hc : M.V (adG (segF o.o.sl)) = 2
      · exact fr5_yes hq hr hqr F hs ok h hc kq kr
      · exact fr5_no hq hr hqr F hs ok h hc kq kr
    | l7 h =>
      by_cases hc : (pushX o.o.psh M).1.nx = 0
      · exact fr7_yes hq hr hqr F hs ok h hc kq kr
      · exact fr7_no hq hr hqr F hs ok h hc kq kr
  · have hP := P
    rcases P with ⟨h0, _⟩ | ⟨pt, bt, cs, hp, k1, k2⟩
    · exact absurd h0 (ok.pk h).2.1
    · have hqr : q ≠ r := kq.ne k1 (by decide)
      have hq1 : q ≠ r1 := kq.ne k2 (Ne.symm hp.ne2.1)
      by_cases hc : (parkX o.o.pk M).1.ln = 0
      · by_cases hst : (parkX o.o.pk M).1.st = true
        · exact fr6_true hq hr hr1 hqr hq1 F hs ok h hc hst kq hP
        · exact fr6_false hq hr hr1 hqr hq1 F hs ok h hc (by simpa using hst) kq hP
      · exact fr6_no hq hr hr1 hqr hq1 F hs ok h hc kq hP
end
end Go.Proofs.YtlcbinckbkdgdaaGreatDoor
namespace Go.Proofs.YtlcbinckbkdgdaaGreatDoor
open Go.RowKit Go.Maps

/-- An Alloc, and the era that it read. -/
structure AX where
  o : AlO
  e : Int
def alX (o : AX) (M : MV) : AX × MV :=
  if o.o.ln = 1 then (if (popX o.o.pop M).1.nx = 0 then (if wSlot (popX o.o.pop M).1.h < 0 then ⟨{ o.o with ln := 0, pop := (popX o.o.pop M).1 }, o.e⟩ else ⟨{ o.o with ln := 2, pop := (popX o.o.pop M).1, sl := wSlot (popX o.o.pop M).1.h }, o.e⟩) else ⟨{ o.o with pop := (popX o.o.pop M).1 }, o.e⟩, (popX o.o.pop M).2)
  else if o.o.ln = 2 then (⟨if M.V (adG (segF o.o.sl)) = 2 then { o.o with ln := 3, pk := newPark o.o.sl } else { o.o with ln := 4 }, o.e⟩, ldM M (adG (segF o.o.sl)))
  else if o.o.ln = 3 then (⟨if (parkX o.o.pk M).1.ln = 0 then { o.o with ln := 1, pop := ⟨1, 0, 0⟩, pk := (parkX o.o.pk M).1 } else { o.o with pk := (parkX o.o.pk M).1 }, o.e⟩, (parkX o.o.pk M).2)
  else if o.o.ln = 4 then (⟨{ o.o with ln := 5 }, M.V adEr⟩, ldM M adEr)
  else if o.o.ln = 5 then (⟨{ o.o with ln := 6 }, o.e⟩, stM M (adB o.o.sl) o.e)
  else if o.o.ln = 6 then (⟨{ o.o with ln := 7, w := M.V (adH o.o.sl) }, o.e⟩, ldM M (adH o.o.sl))
  else if o.o.ln = 7 then (⟨{ o.o with ln := 0, got := true }, o.e⟩, stM M (adH o.o.sl) (headerW 1 (gW o.o.w)))
  else (o, M)
/-- Of which numbers it may be. -/
structure AlNum (o : AX) : Prop where
  sl : 2 ≤ o.o.ln → 0 ≤ o.o.sl ∧ o.o.sl < 256
  w : U64 o.o.w
  e : U64 o.e
  pop : o.o.ln = 1 → U64 o.o.pop.h ∧ 0 ≤ o.o.pop.nx ∧ o.o.pop.nx ≤ 3
  pk : o.o.ln = 3 → PkNum o.o.pk ∧ o.o.pk.ln ≠ 0 ∧ o.o.pk.sl = o.o.sl
  got : o.o.ln ≠ 0 → o.o.got = false
  ln : 0 ≤ o.o.ln ∧ o.o.ln ≤ 7
/-- The part that it is at. -/
inductive AlPart (o : AX) : TypeId → TypeId → List Value → Prop
  | l1 (h : o.o.ln = 1) : AlPart o 75 118 [.int .i64 o.o.pop.nx, .int .u64 o.o.pop.h, .int .i64 o.o.pop.to]
  | l2 (h : o.o.ln = 2) : AlPart o 149 151 [.int .u8 6, .int .i64 (segF o.o.sl), .int .i64 0, .int .u64 0]
  | l4 (h : o.o.ln = 4) : AlPart o 159 160 [.int .u8 2, .int .i64 0, .int .i64 0, .int .u64 0]
  | l5 (h : o.o.ln = 5) : AlPart o 161 162 [.int .u8 9, .int .i64 o.o.sl, .int .i64 1, .int .u64 o.e]
  | l6 (h : o.o.ln = 6) : AlPart o 89 125 [.int .u8 9, .int .i64 o.o.sl, .int .i64 0, .int .u64 0]
  | l7 (h : o.o.ln = 7) : AlPart o 163 164 [.int .u8 9, .int .i64 o.o.sl, .int .i64 0, .int .u64 (headerW 1 (gW o.o.w))]
def AlRep (q r r1 : Nat) (o : AX) (w : World) : Prop :=
  (o.o.ln = 0 ∧ ∃ s g, (o.o.got = true → s = o.o.sl ∧ g = gW o.o.w) ∧ Bq q 80 [.nilIface, .int .i64 s, .int .u32 g, .bool false, .bool o.o.got] w) ∨
  (∃ pt bt cs s g, AlPart o pt bt cs ∧ (o.o.ln ≠ 1 → s = o.o.sl) ∧ (o.o.ln = 7 → g = gW o.o.w) ∧ Bq q 80 [.iface pt (.pointer (some ⟨r, 0, none⟩)), .int .i64 s, .int .u32 g, .bool false, .bool false] w ∧ Bq r bt cs w) ∨
  (o.o.ln = 3 ∧ ∃ g, Bq q 80 [.iface 45 (.pointer (some ⟨r, 0, none⟩)), .int .i64 o.o.sl, .int .u32 g, .bool false, .bool false] w ∧ PkX r r1 o.o.pk w)
theorem AlPart.ne {o : AX} {pt bt : TypeId} {cs : List Value} (h : AlPart o pt bt cs) : bt ≠ 80 ∧ bt ≠ 110 := by
  cases h <;> exact ⟨by decide, by decide⟩
/-- What an Alloc's step leaves. -/
def AlStepped (p b q r r1 : Nat) (R : AX × MV) (w : World) (e : Ending) (w' : World) : Prop := e = .returned (.bool (R.1.o.ln == 0)) ∧ ∃ r' r1', AlRep q r' r1' R.1 w' ∧ VX p b R.2 w' ∧ Onl p b [q, r, r1] w w' ∧ (r' = r ∨ w.heap.size ≤ r') ∧ (r1' = r1 ∨ w.heap.size ≤ r1')
theorem popX_in {o : OS} {M : MV} (h : U64 o.h) (hM : ∀ x, U64 (M.V x)) (hn : 0 ≤ o.nx ∧ o.nx ≤ 3) : U64 (popX o M).1.h ∧ 0 ≤ (popX o M).1.nx ∧ (popX o M).1.nx ≤ 3 := by
  unfold popX swapX
  split
  · refine ⟨hM _, ?_, ?_⟩ <;> (show _ ≤ _; simp only []; split <;> omega)
  · split
    · exact ⟨h, by show (0 : Int) ≤ 3; omega, by show (3 : Int) ≤ 3; omega⟩
    · split
      · refine ⟨h, ?_, ?_⟩ <;> (show _ ≤ _; simp only []; split <;> omega)
      · exact ⟨h, hn⟩
theorem pushX_in {o : OS} {M : MV} (h : U64 o.h) (hM : ∀ x, U64 (M.V x)) (hn : 0 ≤ o.nx ∧ o.nx ≤ 3) : U64 (pushX o M).1.h ∧ 0 ≤ (pushX o M).1.nx ∧ (pushX o M).1.nx ≤ 3 ∧ (pushX o M).1.to = o.to := by
  unfold pushX swapX
  split
  · exact ⟨hM _, by show (0 : Int) ≤ 2; omega, by show (2 : Int) ≤ 3; omega, rfl⟩
  · split
    · exact ⟨h, by show (0 : Int) ≤ 3; omega, by show (3 : Int) ≤ 3; omega, rfl⟩
    · split
      · refine ⟨h, ?_, ?_, rfl⟩ <;> (show _ ≤ _; simp only []; split <;> omega)
      · exact ⟨h, hn.1, hn.2, rfl⟩
section
variable {p b q r r1 : Nat} {op : List Value} {o : AX} {M M' : MV} {w w' X : World}
theorem al1_none (hq : 1 < q) (hr : 1 < r) (hqr : q ≠ r) (F : VX p b M w) (hs : M.s.st < 1000000) (ok : AlNum o) (h : o.o.ln = 1) {r1 : Nat} {s g : Int} (hc : (popX o.o.pop M).1.nx = 0) (hn : wSlot (popX o.o.pop M).1.h < 0) (kq : Bq q 80 [.iface 75 (.pointer (some ⟨r, 0, none⟩)), .int .i64 s, .int .u32 g, .bool false, .bool false] w) (kr : Bq r 118 [.int .i64 o.o.pop.nx, .int .u64 o.o.pop.h, .int .i64 o.o.pop.to] w) :
    Calls Tryz.prog 30 #[.pointer (some ⟨q, 0, none⟩), .pointer (some ⟨p, 0, none⟩)] w (AlStepped p b q r r1 (alX o M) w) := by
  have e : alX o M = (⟨{ o.o with ln := 0, pop := (popX o.o.pop M).1 }, o.e⟩, (popX o.o.pop M).2) := by unfold alX; rw [if_pos h]; simp [hc, hn]
  rw [e]
  have hin := popX_in (ok.pop h).1 F.u64 ⟨(ok.pop h).2.1, (ok.pop h).2.2⟩
  refine (allocX_end hq Tryz.call146 (mt_Pop r) kq (R := Rn p b r q 118 80 [.int .i64 (popX o.o.pop M).1.nx, .int .u64 (popX o.o.pop M).1.h, .int .i64 (popX o.o.pop M).1.to] [.iface 75 (.pointer (some ⟨r, 0, none⟩)), .int .i64 s, .int .u32 g, .bool false, .bool false] (popX o.o.pop M).2 w) (E := [r]) (M := (popX o.o.pop M).2) ((pop_stepX hr F hs (ok.pop h).1 ⟨(ok.pop h).2.1, (ok.pop h).2.2⟩ kr).mono fun ee X hX => ⟨by rw [hX.1]; simp [hc], .of kq F (by decide) hqr hX.2.1 hX.2.2.1 (.of_only3 hX.2.2.2 (by simp))⟩) (fun X hX => hX.use) (fun X hX => alB_none hX.2.1 hX.2.2.1.lay hin.1 hn (by have := hX.1; rw [hc] at this; exact this))).mono ?_
  rintro ee w' ⟨rfl, h1, h2, h3⟩
  exact ⟨rfl, r, r1, .inl ⟨rfl, _, _, fun h0 => absurd (show o.o.got = true from h0) (by rw [ok.got (by omega)]; simp), by rw [ok.got (by omega)]; exact h1⟩, h2, h3.more (by simp), .inl rfl, .inl rfl⟩
theorem al1_slot (hq : 1 < q) (hr : 1 < r) (hqr : q ≠ r) (F : VX p b M w) (hs : M.s.st < 1000000) (ok : AlNum o) (h : o.o.ln = 1) {r1 : Nat} {s g : Int} (hc : (popX o.o.pop M).1.nx = 0) (hn : 0 ≤ wSlot (popX o.o.pop M).1.h) (kq : Bq q 80 [.iface 75 (.pointer (some ⟨r, 0, none⟩)), .int .i64 s, .int .u32 g, .bool false, .bool false] w) (kr : Bq r 118 [.int .i64 o.o.pop.nx, .int .u64 o.o.pop.h, .int .i64 o.o.pop.to] w) :
    Calls Tryz.prog 30 #[.pointer (some ⟨q, 0, none⟩), .pointer (some ⟨p, 0, none⟩)] w (AlStepped p b q r r1 (alX o M) w) := by
  have e : alX o M = (⟨{ o.o with ln := 2, pop := (popX o.o.pop M).1, sl := wSlot (popX o.o.pop M).1.h }, o.e⟩, (popX o.o.pop M).2) := by unfold alX; rw [if_pos h]; simp [hc, show ¬ wSlot (popX o.o.pop M).1.h < 0 by omega]
  rw [e]
  have hin := popX_in (ok.pop h).1 F.u64 ⟨(ok.pop h).2.1, (ok.pop h).2.2⟩
  have hsl := slot_in (popX o.o.pop M).1.h
  refine (allocX_on hq Tryz.call146 (mt_Pop r) kq (R := Rn p b r q 118 80 [.int .i64 (popX o.o.pop M).1.nx, .int .u64 (popX o.o.pop M).1.h, .int .i64 (popX o.o.pop M).1.to] [.iface 75 (.pointer (some ⟨r, 0, none⟩)), .int .i64 s, .int .u32 g, .bool false, .bool false] (popX o.o.pop M).2 w) (E := [r]) (M := (popX o.o.pop M).2) ((pop_stepX hr F hs (ok.pop h).1 ⟨(ok.pop h).2.1, (ok.pop h).2.2⟩ kr).mono fun ee X hX => ⟨by rw [hX.1]; simp [hc], .of kq F (by decide) hqr hX.2.1 hX.2.2.1 (.of_only3 hX.2.2.2 (by simp))⟩) (fun X hX => hX.use) (fun X hX => alloc_fresh (n := w.heap.size) hX.2.2.2.size hX.2.1.lt (alB_slot hX.2.1 hX.2.2.1.lay hin.1 hn (seg_quo ⟨hn, by omega⟩) (seg_wrap ⟨hn, by omega⟩) (by have := hX.1; rw [hc] at this; exact this))) FreshX.set).mono ?_
  rintro ee w' ⟨rfl, t, z, ⟨rfl, r', rfl, h1, h2, h3⟩, h4, h5, h6⟩
  exact ⟨rfl, r', r1, .inr (.inl ⟨_, _, _, _, _, .l2 rfl, (fun _ => rfl), (fun h => absurd h (by simp)), h4, h3⟩), h5, h6.more (by simp), .inr h1, .inl rfl⟩
theorem al1_no (_ : 1 < q) (hr : 1 < r) (hqr : q ≠ r) (F : VX p b M w) (hs : M.s.st < 1000000) (ok : AlNum o) (h : o.o.ln = 1) {r1 : Nat} {s g : Int} (hc : (popX o.o.pop M).1.nx ≠ 0) (kq : Bq q 80 [.iface 75 (.pointer (some ⟨r, 0, none⟩)), .int .i64 s, .int .u32 g, .bool false, .bool false] w) (kr : Bq r 118 [.int .i64 o.o.pop.nx, .int .u64 o.o.pop.h, .int .i64 o.o.pop.to] w) :
    Calls Tryz.prog 30 #[.pointer (some ⟨q, 0, none⟩), .pointer (some ⟨p, 0, none⟩)] w (AlStepped p b q r r1 (alX o M) w) := by
  have e : alX o M = (⟨{ o.o with pop := (popX o.o.pop M).1 }, o.e⟩, (popX o.o.pop M).2) := by unfold alX; rw [if_pos h]; simp [hc]
  rw [e]
  refine (allocX_no Tryz.call146 (mt_Pop r) kq (R := Rn p b r q 118 80 [.int .i64 (popX o.o.pop M).1.nx, .int .u64 (popX o.o.pop M).1.h, .int .i64 (popX o.o.pop M).1.to] [.iface 75 (.pointer (some ⟨r, 0, none⟩)), .int .i64 s, .int .u32 g, .bool false, .bool false] (popX o.o.pop M).2 w) (E := [r]) (M := (popX o.o.pop M).2) ((pop_stepX hr F hs (ok.pop h).1 ⟨(ok.pop h).2.1, (ok.pop h).2.2⟩ kr).mono fun ee X hX => ⟨by rw [hX.1]; simp [hc], .of kq F (by decide) hqr hX.2.1 hX.2.2.1 (.of_only3 hX.2.2.2 (by simp))⟩) (fun X hX => hX.use)).mono ?_
  rintro ee w' ⟨rfl, h1, h2, h3, h4⟩
  exact ⟨by show _ = Ending.returned (.bool (o.o.ln == 0)); rw [h]; rfl, r, r1, .inr (.inl ⟨_, _, _, _, _, .l1 h, fun hh => absurd h hh, fun hh => absurd (show o.o.ln = 7 from hh) (by omega), h2, h1⟩), h3, h4.more (by simp), .inl rfl, .inl rfl⟩
theorem al2_yes (hq : 1 < q) (hr : 1 < r) (hqr : q ≠ r) (F : VX p b M w) (hs : M.s.st < 1000000) (ok : AlNum o) (h : o.o.ln = 2) {r1 : Nat} {g : Int} (hc : M.V (adG (segF o.o.sl)) = 2) (kq : Bq q 80 [.iface 149 (.pointer (some ⟨r, 0, none⟩)), .int .i64 o.o.sl, .int .u32 g, .bool false, .bool false] w) (kr : Bq r 151 [.int .u8 6, .int .i64 (segF o.o.sl), .int .i64 0, .int .u64 0] w) :
    Calls Tryz.prog 30 #[.pointer (some ⟨q, 0, none⟩), .pointer (some ⟨p, 0, none⟩)] w (AlStepped p b q r r1 (alX o M) w) := by
  have e : alX o M = (⟨{ o.o with ln := 3, pk := newPark o.o.sl }, o.e⟩, ldM M (adG (segF o.o.sl))) := by unfold alX; rw [if_neg (by omega), if_pos h]; simp [hc]
  rw [e]
  have hsl := slot_i64 (ok.sl (by omega))
  have hsg := seg_i64 (ok.sl (by omega))
  refine (allocX_on hq Tryz.call150 (mt_state r) kq (R := Rn p b r q 151 80 [.int .u8 6, .int .i64 (segF o.o.sl), .int .i64 0, .int .u64 (M.V (adG (segF o.o.sl)))] [.iface 149 (.pointer (some ⟨r, 0, none⟩)), .int .i64 o.o.sl, .int .u32 g, .bool false, .bool false] (ldM M (adG (segF o.o.sl))) w) (E := [r]) (M := (ldM M (adG (segF o.o.sl)))) ((loadLn_step (t := 151) (x := (adG (segF o.o.sl))) hr (by decide) F hs (by rw [ldc_G hsg]; exact kr)).mono fun ee X hX => ⟨hX.1, .of kq F (by decide) hqr (by have := hX.2.1; rw [ldc_G hsg] at this; exact this) hX.2.2.1 hX.2.2.2⟩) (fun X hX => hX.use) (S := FreshP q w.heap.size w.heap.size o.o.sl) (u1 := .int .i64 o.o.sl) (u2 := .int .u32 g) (u3 := .bool false) (u4 := .bool false) (fun X hX => (alB_park hX.2.1 (ok.sl (by omega)).1 (ok.sl (by omega)).2 hX.1 (by simpa using hc)).mono ?_) FreshP.set).mono ?_
  · rintro ee X' ⟨q1, r2, rfl, h1, h2, h3, h4, h5, h6⟩
    exact ⟨_, _, rfl, ⟨rfl, q1, r2, rfl, Nat.le_trans hX.2.2.2.size h1, h2, rfl, Nat.lt_of_lt_of_le hX.2.1.lt h1, pkx_new h3 h4⟩, h5, h6⟩
  · rintro ee w' ⟨rfl, t, z, ⟨rfl, q1, r2, rfl, h1, h2, _, _, h3⟩, h4, h5, h6⟩
    exact ⟨rfl, q1, r2, .inr (.inr ⟨rfl, _, h4, h3⟩), h5, h6.more (by simp), .inr (by omega), .inr h1⟩
theorem al2_no (hq : 1 < q) (hr : 1 < r) (hqr : q ≠ r) (F : VX p b M w) (hs : M.s.st < 1000000) (ok : AlNum o) (h : o.o.ln = 2) {r1 : Nat} {g : Int} (hc : M.V (adG (segF o.o.sl)) ≠ 2) (kq : Bq q 80 [.iface 149 (.pointer (some ⟨r, 0, none⟩)), .int .i64 o.o.sl, .int .u32 g, .bool false, .bool false] w) (kr : Bq r 151 [.int .u8 6, .int .i64 (segF o.o.sl), .int .i64 0, .int .u64 0] w) :
    Calls Tryz.prog 30 #[.pointer (some ⟨q, 0, none⟩), .pointer (some ⟨p, 0, none⟩)] w (AlStepped p b q r r1 (alX o M) w) := by
  have e : alX o M = (⟨{ o.o with ln := 4 }, o.e⟩, ldM M (adG (segF o.o.sl))) := by unfold alX; rw [if_neg (by omega), if_pos h]; simp [hc]
  rw [e]
  have hsl := slot_i64 (ok.sl (by omega))
  have hsg := seg_i64 (ok.sl (by omega))
  refine (allocX_on hq Tryz.call150 (mt_state r) kq (R := Rn p b r q 151 80 [.int .u8 6, .int .i64 (segF o.o.sl), .int .i64 0, .int .u64 (M.V (adG (segF o.o.sl)))] [.iface 149 (.pointer (some ⟨r, 0, none⟩)), .int .i64 o.o.sl, .int .u32 g, .bool false, .bool false] (ldM M (adG (segF o.o.sl))) w) (E := [r]) (M := (ldM M (adG (segF o.o.sl)))) ((loadLn_step (t := 151) (x := (adG (segF o.o.sl))) hr (by decide) F hs (by rw [ldc_G hsg]; exact kr)).mono fun ee X hX => ⟨hX.1, .of kq F (by decide) hqr (by have := hX.2.1; rw [ldc_G hsg] at this; exact this) hX.2.2.1 hX.2.2.2⟩) (fun X hX => hX.use) (fun X hX => alloc_fresh (n := w.heap.size) hX.2.2.2.size hX.2.1.lt (alB_era hX.2.1 hX.1 (by simpa using hc))) FreshX.set).mono ?_
  rintro ee w' ⟨rfl, t, z, ⟨rfl, r', rfl, h1, h2, h3⟩, h4, h5, h6⟩
  exact ⟨rfl, r', r1, .inr (.inl ⟨_, _, _, _, _, .l4 rfl, (fun _ => rfl), (fun h => absurd h (by simp)), h4, h3⟩), h5, h6.more (by simp), .inr h1, .inl rfl⟩
theorem al4 (hq : 1 < q) (hr : 1 < r) (hqr : q ≠ r) (F : VX p b M w) (hs : M.s.st < 1000000) (_ : AlNum o) (h : o.o.ln = 4) {r1 : Nat} {g : Int} (kq : Bq q 80 [.iface 159 (.pointer (some ⟨r, 0, none⟩)), .int .i64 o.o.sl, .int .u32 g, .bool false, .bool false] w) (kr : Bq r 160 [.int .u8 2, .int .i64 0, .int .i64 0, .int .u64 0] w) :
    Calls Tryz.prog 30 #[.pointer (some ⟨q, 0, none⟩), .pointer (some ⟨p, 0, none⟩)] w (AlStepped p b q r r1 (alX o M) w) := by
  have e : alX o M = (⟨{ o.o with ln := 5 }, M.V adEr⟩, ldM M adEr) := by unfold alX; rw [if_neg (by omega), if_neg (by omega), if_neg (by omega), if_pos h]
  rw [e]
  refine (allocX_on hq Tryz.call150 (mt_era r) kq (R := Rn p b r q 160 80 [.int .u8 2, .int .i64 0, .int .i64 0, .int .u64 (M.V adEr)] [.iface 159 (.pointer (some ⟨r, 0, none⟩)), .int .i64 o.o.sl, .int .u32 g, .bool false, .bool false] (ldM M adEr) w) (E := [r]) (M := (ldM M adEr)) ((loadLn_step (t := 160) (x := adEr) hr (by decide) F hs kr).mono fun ee X hX => ⟨hX.1, .of kq F (by decide) hqr hX.2.1 hX.2.2.1 hX.2.2.2⟩) (fun X hX => hX.use) (fun X hX => alloc_fresh (n := w.heap.size) hX.2.2.2.size hX.2.1.lt (alB_birth hX.2.1 hX.1)) FreshX.set).mono ?_
  rintro ee w' ⟨rfl, t, z, ⟨rfl, r', rfl, h1, h2, h3⟩, h4, h5, h6⟩
  exact ⟨rfl, r', r1, .inr (.inl ⟨_, _, _, _, _, .l5 rfl, (fun _ => rfl), (fun h => absurd h (by simp)), h4, h3⟩), h5, h6.more (by simp), .inr h1, .inl rfl⟩
theorem al5 (hq : 1 < q) (_ : 1 < r) (hqr : q ≠ r) (F : VX p b M w) (hs : M.s.st < 1000000) (ok : AlNum o) (h : o.o.ln = 5) {r1 : Nat} {g : Int} (kq : Bq q 80 [.iface 161 (.pointer (some ⟨r, 0, none⟩)), .int .i64 o.o.sl, .int .u32 g, .bool false, .bool false] w) (kr : Bq r 162 [.int .u8 9, .int .i64 o.o.sl, .int .i64 1, .int .u64 o.e] w) :
    Calls Tryz.prog 30 #[.pointer (some ⟨q, 0, none⟩), .pointer (some ⟨p, 0, none⟩)] w (AlStepped p b q r r1 (alX o M) w) := by
  have e : alX o M = (⟨{ o.o with ln := 6 }, o.e⟩, stM M (adB o.o.sl) o.e) := by unfold alX; rw [if_neg (by omega), if_neg (by omega), if_neg (by omega), if_neg (by omega), if_pos h]
  rw [e]
  have hsl := slot_i64 (ok.sl (by omega))
  have hsg := seg_i64 (ok.sl (by omega))
  refine (allocX_on hq Tryz.call151 (mt_birth r) kq (R := Rn p b r q 162 80 [.int .u8 9, .int .i64 o.o.sl, .int .i64 1, .int .u64 o.e] [.iface 161 (.pointer (some ⟨r, 0, none⟩)), .int .i64 o.o.sl, .int .u32 g, .bool false, .bool false] (stM M (adB o.o.sl) o.e) w) (E := [r]) (M := (stM M (adB o.o.sl) o.e)) ((storeLn_step (t := 162) (x := (adB o.o.sl)) (by decide) F hs ok.e (by rw [ldc_B hsl]; exact kr)).mono fun ee X hX => ⟨hX.1, .of kq F (by decide) hqr (by have := hX.2.1; rw [ldc_B hsl] at this; exact this) hX.2.2.1 (hX.2.2.2.more (by simp))⟩) (fun X hX => hX.use) (fun X hX => alloc_fresh (n := w.heap.size) hX.2.2.2.size hX.2.1.lt (alB_header hX.2.1)) FreshX.set).mono ?_
  rintro ee w' ⟨rfl, t, z, ⟨rfl, r', rfl, h1, h2, h3⟩, h4, h5, h6⟩
  exact ⟨rfl, r', r1, .inr (.inl ⟨_, _, _, _, _, .l6 rfl, (fun _ => rfl), (fun h => absurd h (by simp)), h4, h3⟩), h5, h6.more (by simp), .inr h1, .inl rfl⟩
theorem al6 (hq : 1 < q) (hr : 1 < r) (hqr : q ≠ r) (F : VX p b M w) (hs : M.s.st < 1000000) (ok : AlNum o) (h : o.o.ln = 6) {r1 : Nat} {g : Int} (kq : Bq q 80 [.iface 89 (.pointer (some ⟨r, 0, none⟩)), .int .i64 o.o.sl, .int .u32 g, .bool false, .bool false] w) (kr : Bq r 125 [.int .u8 9, .int .i64 o.o.sl, .int .i64 0, .int .u64 0] w) :
    Calls Tryz.prog 30 #[.pointer (some ⟨q, 0, none⟩), .pointer (some ⟨p, 0, none⟩)] w (AlStepped p b q r r1 (alX o M) w) := by
  have e : alX o M = (⟨{ o.o with ln := 7, w := (M.V (adH o.o.sl)) }, o.e⟩, ldM M (adH o.o.sl)) := by unfold alX; rw [if_neg (by omega), if_neg (by omega), if_neg (by omega), if_neg (by omega), if_neg (by omega), if_pos h]
  rw [e]
  have hsl := slot_i64 (ok.sl (by omega))
  have hsg := seg_i64 (ok.sl (by omega))
  refine (allocX_on hq Tryz.call150 (mt_header r) kq (R := Rn p b r q 125 80 [.int .u8 9, .int .i64 o.o.sl, .int .i64 0, .int .u64 (M.V (adH o.o.sl))] [.iface 89 (.pointer (some ⟨r, 0, none⟩)), .int .i64 o.o.sl, .int .u32 g, .bool false, .bool false] (ldM M (adH o.o.sl)) w) (E := [r]) (M := (ldM M (adH o.o.sl))) ((loadLn_step (t := 125) (x := (adH o.o.sl)) hr (by decide) F hs (by rw [ldc_H hsl]; exact kr)).mono fun ee X hX => ⟨hX.1, .of kq F (by decide) hqr (by have := hX.2.1; rw [ldc_H hsl] at this; exact this) hX.2.2.1 hX.2.2.2⟩) (fun X hX => hX.use) (fun X hX => alloc_fresh (n := w.heap.size) hX.2.2.2.size hX.2.1.lt (alB_head hX.2.1 hq hX.2.2.1.lay (F.u64 _) hX.1)) FreshX.set).mono ?_
  rintro ee w' ⟨rfl, t, z, ⟨rfl, r', rfl, h1, h2, h3⟩, h4, h5, h6⟩
  exact ⟨rfl, r', r1, .inr (.inl ⟨_, _, _, _, _, .l7 rfl, (fun _ => rfl), (fun _ => rfl), h4, h3⟩), h5, h6.more (by simp), .inr h1, .inl rfl⟩
theorem al7 (hq : 1 < q) (_ : 1 < r) (hqr : q ≠ r) (F : VX p b M w) (hs : M.s.st < 1000000) (ok : AlNum o) (h : o.o.ln = 7) {r1 : Nat} (kq : Bq q 80 [.iface 163 (.pointer (some ⟨r, 0, none⟩)), .int .i64 o.o.sl, .int .u32 (gW o.o.w), .bool false, .bool false] w) (kr : Bq r 164 [.int .u8 9, .int .i64 o.o.sl, .int .i64 0, .int .u64 (headerW 1 (gW o.o.w))] w) :
    Calls Tryz.prog 30 #[.pointer (some ⟨q, 0, none⟩), .pointer (some ⟨p, 0, none⟩)] w (AlStepped p b q r r1 (alX o M) w) := by
  have e : alX o M = (⟨{ o.o with ln := 0, got := true }, o.e⟩, stM M (adH o.o.sl) (headerW 1 (gW o.o.w))) := by unfold alX; rw [if_neg (by omega), if_neg (by omega), if_neg (by omega), if_neg (by omega), if_neg (by omega), if_neg (by omega), if_pos h]
  rw [e]
  have hsl := slot_i64 (ok.sl (by omega))
  have hsg := seg_i64 (ok.sl (by omega))
  refine (allocX_end hq Tryz.call151 (mt_live r) kq (R := Rn p b r q 164 80 [.int .u8 9, .int .i64 o.o.sl, .int .i64 0, .int .u64 (headerW 1 (gW o.o.w))] [.iface 163 (.pointer (some ⟨r, 0, none⟩)), .int .i64 o.o.sl, .int .u32 (gW o.o.w), .bool false, .bool false] (stM M (adH o.o.sl) (headerW 1 (gW o.o.w))) w) (E := [r]) (M := (stM M (adH o.o.sl) (headerW 1 (gW o.o.w)))) ((storeLn_step (t := 164) (x := (adH o.o.sl)) (by decide) F hs (hdrW_u64 o.o.w (by decide)) (by rw [ldc_H hsl]; exact kr)).mono fun ee X hX => ⟨hX.1, .of kq F (by decide) hqr (by have := hX.2.1; rw [ldc_H hsl] at this; exact this) hX.2.2.1 (hX.2.2.2.more (by simp))⟩) (fun X hX => hX.use) (fun X hX => alB_live hX.2.1)).mono ?_
  rintro ee w' ⟨rfl, h1, h2, h3⟩
  exact ⟨rfl, r, r1, .inl ⟨rfl, _, _, fun _ => ⟨rfl, rfl⟩, h1⟩, h2, h3.more (by simp), .inl rfl, .inl rfl⟩
theorem alloc_park_part {g : Int} (hr : 1 < r) (hr1 : 1 < r1) (F : VX p b M w) (hs : M.s.st < 1000000) (ok : PkNum o.o.pk) (kq : Bq q 80 [.iface 45 (.pointer (some ⟨r, 0, none⟩)), .int .i64 o.o.sl, .int .u32 g, .bool false, .bool false] w) (P : PkX r r1 o.o.pk w) (hqr : q ≠ r) (hq1 : q ≠ r1) :
    Calls Tryz.prog 36 #[.pointer (some ⟨r, 0, none⟩), .pointer (some ⟨p, 0, none⟩)] w fun e w1 => e = .returned (.bool ((parkX o.o.pk M).1.ln == 0)) ∧ (fun X => ∃ r2, PkX r r2 (parkX o.o.pk M).1 X ∧ (r2 = r1 ∨ w.heap.size ≤ r2) ∧ Bq q 80 [.iface 45 (.pointer (some ⟨r, 0, none⟩)), .int .i64 o.o.sl, .int .u32 g, .bool false, .bool false] X ∧ VX p b (parkX o.o.pk M).2 X ∧ Onl p b [r, r1] w X) w1 := by
  refine (park_stepX hr hr1 F hs ok P).mono ?_
  rintro ee X ⟨rfl, r2, h1, h2, h3, h4⟩
  have hne := F.ne (by decide) kq
  exact ⟨rfl, r2, h1, h4, kq.onl h3 hne.1 hne.2 (by simp; exact ⟨hqr, hq1⟩), h2, h3⟩
theorem alloc_park_use {g : Int} {X : World} (h : (fun X => ∃ r2, PkX r r2 (parkX o.o.pk M).1 X ∧ (r2 = r1 ∨ w.heap.size ≤ r2) ∧ Bq q 80 [.iface 45 (.pointer (some ⟨r, 0, none⟩)), .int .i64 o.o.sl, .int .u32 g, .bool false, .bool false] X ∧ VX p b (parkX o.o.pk M).2 X ∧ Onl p b [r, r1] w X) X) : Bq q 80 [.iface 45 (.pointer (some ⟨r, 0, none⟩)), .int .i64 o.o.sl, .int .u32 g, .bool false, .bool false] X ∧ VX p b (parkX o.o.pk M).2 X ∧ Onl p b [r, r1] w X := by
  obtain ⟨r2, _, _, h3, h4, h5⟩ := h
  exact ⟨h3, h4, h5⟩
theorem al3_yes {g : Int} (hq : 1 < q) (hr : 1 < r) (hr1 : 1 < r1) (hqr : q ≠ r) (hq1 : q ≠ r1) (F : VX p b M w) (hs : M.s.st < 1000000) (ok : AlNum o) (h : o.o.ln = 3) (hc : (parkX o.o.pk M).1.ln = 0) (kq : Bq q 80 [.iface 45 (.pointer (some ⟨r, 0, none⟩)), .int .i64 o.o.sl, .int .u32 g, .bool false, .bool false] w) (P : PkX r r1 o.o.pk w) :
    Calls Tryz.prog 30 #[.pointer (some ⟨q, 0, none⟩), .pointer (some ⟨p, 0, none⟩)] w (AlStepped p b q r r1 (alX o M) w) := by
  have e : alX o M = (⟨{ o.o with ln := 1, pop := ⟨1, 0, 0⟩, pk := (parkX o.o.pk M).1 }, o.e⟩, (parkX o.o.pk M).2) := by unfold alX; rw [if_neg (by omega), if_neg (by omega), if_pos h]; simp [hc]
  rw [e]
  have hpt := (alloc_park_part hr hr1 F hs (ok.pk h).1 kq P hqr hq1)
  refine (allocX_on hq Tryz.call36 (mt_Park r) kq (R := (fun X => ∃ r2, PkX r r2 (parkX o.o.pk M).1 X ∧ (r2 = r1 ∨ w.heap.size ≤ r2) ∧ Bq q 80 [.iface 45 (.pointer (some ⟨r, 0, none⟩)), .int .i64 o.o.sl, .int .u32 g, .bool false, .bool false] X ∧ VX p b (parkX o.o.pk M).2 X ∧ Onl p b [r, r1] w X)) (E := [r, r1]) (M := (parkX o.o.pk M).2) (hpt.mono fun ee X hX => ⟨by rw [hX.1, hc]; rfl, hX.2⟩) (fun X hX => alloc_park_use hX) (fun X hX => alloc_fresh (n := w.heap.size) (alloc_park_use hX).2.2.size (alloc_park_use hX).1.lt (alB_pop (alloc_park_use hX).1)) FreshX.set).mono ?_
  rintro ee w' ⟨rfl, t, z, ⟨rfl, r', rfl, h1, h2, h3⟩, h4, h5, h6⟩
  exact ⟨rfl, r', r1, .inr (.inl ⟨_, _, _, _, _, .l1 rfl, fun hh => absurd rfl hh, fun hh => absurd hh (by simp), h4, h3⟩), h5, h6.more (by simp), .inr h1, .inl rfl⟩
theorem al3_no {g : Int} (_ : 1 < q) (hr : 1 < r) (hr1 : 1 < r1) (hqr : q ≠ r) (hq1 : q ≠ r1) (F : VX p b M w) (hs : M.s.st < 1000000) (ok : AlNum o) (h : o.o.ln = 3) (hc : (parkX o.o.pk M).1.ln ≠ 0) (kq : Bq q 80 [.iface 45 (.pointer (some ⟨r, 0, none⟩)), .int .i64 o.o.sl, .int .u32 g, .bool false, .bool false] w) (P : PkX r r1 o.o.pk w) :
    Calls Tryz.prog 30 #[.pointer (some ⟨q, 0, none⟩), .pointer (some ⟨p, 0, none⟩)] w (AlStepped p b q r r1 (alX o M) w) := by
  have e : alX o M = (⟨{ o.o with pk := (parkX o.o.pk M).1 }, o.e⟩, (parkX o.o.pk M).2) := by unfold alX; rw [if_neg (by omega), if_neg (by omega), if_pos h]; simp [hc]
  rw [e]
  have hpt := (alloc_park_part hr hr1 F hs (ok.pk h).1 kq P hqr hq1)
  refine (allocX_no Tryz.call36 (mt_Park r) kq (R := (fun X => ∃ r2, PkX r r2 (parkX o.o.pk M).1 X ∧ (r2 = r1 ∨ w.heap.size ≤ r2) ∧ Bq q 80 [.iface 45 (.pointer (some ⟨r, 0, none⟩)), .int .i64 o.o.sl, .int .u32 g, .bool false, .bool false] X ∧ VX p b (parkX o.o.pk M).2 X ∧ Onl p b [r, r1] w X)) (E := [r, r1]) (M := (parkX o.o.pk M).2) (hpt.mono fun ee X hX => ⟨by rw [hX.1, fls hc], hX.2⟩) (fun X hX => alloc_park_use hX)).mono ?_
  rintro ee w' ⟨rfl, r2, h1, h2, h3, h4, h5⟩
  exact ⟨by show _ = Ending.returned (.bool (o.o.ln == 0)); rw [h]; rfl, r, r2, .inr (.inr ⟨h, _, h3, h1⟩), h4, h5.more (by simp), .inl rfl, h2⟩
/-- An Alloc's step. -/
theorem alloc_stepX (hq : 1 < q) (hr : 1 < r) (hr1 : 1 < r1) (F : VX p b M w) (hs : M.s.st < 1000000) (ok : AlNum o) (P : AlRep q r r1 o w) :
    Calls Tryz.prog 30 #[.pointer (some ⟨q, 0, none⟩), .pointer (some ⟨p, 0, none⟩)] w (AlStepped p b q r r1 (alX o M) w) := by
  rcases P with ⟨h, s, g, hg, k⟩ | ⟨pt, bt, cs, s, g, hp, h1, h2, kq, kr⟩ | ⟨h, g, kq, P⟩
  · have e : alX o M = (o, M) := by unfold alX; rw [if_neg (by omega), if_neg (by omega), if_neg (by omega), if_neg (by omega), if_neg (by omega), if_neg (by omega), if_neg (by omega)]
    rw [e]
    refine (stepAlloc_over _ k).mono ?_
    rintro ee w' ⟨rfl, rfl⟩
    exact ⟨by rw [h]; rfl, r, r1, .inl ⟨h, s, g, hg, k⟩, F, .refl _, .inl rfl, .inl rfl⟩
  · have hqr : q ≠ r := kq.ne kr (Ne.symm hp.ne.1)
    cases hp with
    | l1 h =>
      by_cases hc : (popX o.o.pop M).1.nx = 0
      · by_cases hn : wSlot (popX o.o.pop M).1.h < 0
        · exact al1_none hq hr hqr F hs ok h hc hn kq kr
        · exact al1_slot hq hr hqr F hs ok h hc (by omega) kq kr
      · exact al1_no hq hr hqr F hs ok h hc kq kr
    | l2 h =>
      obtain rfl := h1 (by omega)
      by_cases hc : M.V (adG (segF o.o.sl)) = 2
      · exact al2_yes hq hr hqr F hs ok h hc kq kr
      · exact al2_no hq hr hqr F hs ok h hc kq kr
    | l4 h =>
      obtain rfl := h1 (by omega)
      exact al4 hq hr hqr F hs ok h kq kr
    | l5 h =>
      obtain rfl := h1 (by omega)
      exact al5 hq hr hqr F hs ok h kq kr
    | l6 h =>
      obtain rfl := h1 (by omega)
      exact al6 hq hr hqr F hs ok h kq kr
    | l7 h =>
      obtain rfl := h1 (by omega)
      obtain rfl := h2 h
      exact al7 hq hr hqr F hs ok h kq kr
  · have hP := P
    rcases P with ⟨h0, _⟩ | ⟨pt, bt, cs, hp, k1, k2⟩
    · exact absurd h0 (ok.pk h).2.1
    · have hqr : q ≠ r := kq.ne k1 (by decide)
      have hq1 : q ≠ r1 := kq.ne k2 (Ne.symm hp.ne2.2)
      by_cases hc : (parkX o.o.pk M).1.ln = 0
      · exact al3_yes hq hr hr1 hqr hq1 F hs ok h hc kq hP
      · exact al3_no hq hr hr1 hqr hq1 F hs ok h hc kq hP
end
end Go.Proofs.YtlcbinckbkdgdaaGreatDoor
