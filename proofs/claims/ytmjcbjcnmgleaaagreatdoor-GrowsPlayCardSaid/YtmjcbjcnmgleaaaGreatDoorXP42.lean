/-
  Package grows; conditions as each theorem says.
-/
import Derived.Test.YtmjcbjcnmgleaaaGreatDoorXP41
namespace Go.Proofs.YtmjcbjcnmgleaaaGreatDoor
open Go.RowKit Go.Maps
section
variable {B p b q r r1 r' r1' : Nat} {E : List Nat} {T : TypeId} {nx n sg sl ws en lk : Int} {pt kv kv' : Value} {tl : List Value} {cs : List Value} {xs : List Int} {M M' : MV} {o : KX} {R : KX × MV} {w w' X Y : World}
theorem KeptAt.onl (h : KeptAt B kv xs w) (F : VX p b M w) (O : Onl p b E w X) (hE : ∀ g, kv.ownBlock = some g → g ∉ E) : KeptAt B kv xs X := h.same fun g hg => by
  obtain ⟨_, cur, hc⟩ := h.lt hg
  refine O.block g (Array.getElem?_eq_some_iff.1 hc).1 (fun e => ?_) (fun e => ?_) (hE g hg)
  · subst e
    obtain ⟨⟨c2, h2⟩, _⟩ := F.objs
    have := hc.symm.trans h2
    simp at this
  · subst e
    obtain ⟨_, e2, c2, h2⟩ := F.objs
    have := hc.symm.trans h2
    simp at this
theorem gbNone (k : Bq q T (SC nx pt sg sl ws en lk kv) Y) (h : KeptAt B kv [] Y) : Calls Tryz.prog 112 #[.pointer (some ⟨q, 0, none⟩)] Y fun e w' => e = .returned (.int .i64 3) ∧ w' = Y := by
  obtain ⟨A, c, rfl, _⟩ := own_sliceK h
  exact giveBack_none k
theorem gbSome (hT : T ≠ 3) (k : Bq q T (SC nx pt sg sl ws en lk kv) Y) (h : KeptAt B kv xs Y) (hne : xs ≠ []) (hz : ∀ z ∈ xs, 0 ≤ z ∧ z < 256) (hl : xs.length ≤ 256) : Calls Tryz.prog 112 #[.pointer (some ⟨q, 0, none⟩)] Y fun e w' => e = .returned (.int .i64 5) ∧
    ∃ r, Y.heap.size ≤ r ∧ Bq r 198 [.int .i64 1, .int .u64 0, .int .i64 (xs.getLastD 0)] w' ∧ Bq q T (SC nx (.iface 152 (.pointer (some ⟨r, 0, none⟩))) sg sl ws en lk kv) w' ∧ Only q q Y w' ∧ KeptAt B kv xs w' := by
  obtain ⟨ys, z, rfl⟩ : ∃ ys z, xs = ys ++ [z] := ⟨xs.dropLast, xs.getLast hne, (List.dropLast_concat_getLast hne).symm⟩
  have hlen : (ys ++ [z]).length = ys.length + 1 := by simp
  obtain ⟨A, c, rfl, _, _, hA⟩ := own_sliceK h
  obtain ⟨g, rfl⟩ := hA (by simp)
  have hc := World.ownsRow.cellAt h ys.length (by rw [hlen]; omega)
  have hc2 : Y.cell? ⟨g, ys.length, none⟩ = some (.int .i64 z) := hc.trans (by simp)
  rw [hlen] at k hl
  have hzz := hz z (by simp)
  refine (giveBack_some k (by omega) hc2 hzz.1 hzz.2 (h.ne k hT rfl)).mono ?_
  rintro e w' ⟨rfl, r, g1, g2, g3, g4⟩
  refine ⟨rfl, r, g1, by simpa using g2, by rw [hlen]; exact g3, g4, h.keepO g4 k hT⟩
def ShMid (B p b q r r1 : Nat) (kv : Value) (R : KX × MV) (w X : World) : Prop :=
  ∃ r' r1' kv', ShP B q r' r1' 5 R.1 kv' X ∧ VX p b R.2 X ∧ Onl p b (q :: r :: r1 :: kv.ownBlock.toList) w X ∧ (r' = r ∨ w.heap.size ≤ r') ∧ (r1' = r1 ∨ w.heap.size ≤ r1') ∧ (kv'.ownBlock = kv.ownBlock ∨ ∃ g, kv'.ownBlock = some g ∧ w.heap.size ≤ g)
theorem ShMid.bq (h : ShMid B p b q r r1 kv R w X) : ∃ nx pt' sg' sl' ws' en' tl', Bq q 63 (TC nx pt' sg' sl' ws' en' tl') X := by
  obtain ⟨_, _, _, P, _⟩ := h
  obtain ⟨_, _, _, _, _, _, k⟩ := P.bq
  exact sc_bq k
theorem ShMid.fin (hq : 1 < q) (hs : R.1.k.sh = true) (hl : (1 ≤ R.1.k.ln ∧ R.1.k.ln ≤ 8) ∨ (11 ≤ R.1.k.ln ∧ R.1.k.ln ≤ 15)) (h : ShMid B p b q r r1 kv R w X) (hn : n = nxL R.1.k.ln) : ShStepped B p b q r r1 kv R w (.returned (.bool (n == 0))) (X.setCell ⟨q, 0, none⟩ (.int .i64 n)) := by
  obtain ⟨_, _, _, P, F, O, g1, g2, g3⟩ := h
  exact shFin hq hs hl P F O g1 g2 g3 hn
theorem Only.onlE (h : Only q q X Y) : Onl p b (q :: E) X Y := h.onl (by simp)
theorem Onk.onl {ob : Option Nat} (h : Onk q ob X Y) : Onl p b (q :: r :: r1 :: ob.toList) X Y :=
  ⟨h.os, h.tape, h.output, h.size, fun k hk _ _ h3 => h.block k hk (fun e => h3 (by simp [e])) (fun e => h3 (by simp [e]))⟩
theorem VX.onk {ob : Option Nat} (F : VX p b M X) (h : Onk q ob X Y) (hq : 1 < q) (k : Bq q 63 cs X) (hk : KeptAt B kv xs X) (hB : 1 < B) (ho : kv.ownBlock = ob) : VX p b M Y := by
  subst ho
  have hne := F.ne (by decide) k
  have no : ∀ z, (∃ o, X.heap[z]? = some o ∧ ∀ cur, o ≠ .cells cur 3 (0, 0)) → kv.ownBlock ≠ some z := fun z ⟨o, h1, h2⟩ e => by
    obtain ⟨_, cur, hc⟩ := hk.lt e
    have := hc.symm.trans h1
    simp only [Option.some.injEq] at this
    exact h2 cur this.symm
  obtain ⟨⟨c2, h2⟩, e2, c3, h3⟩ := F.objs
  have lo : ∀ z, z ≤ 1 → kv.ownBlock ≠ some z := fun z hz e => by have := (hk.lt e).1; omega
  exact F.keep h.size (h.block p F.lt.1 (Ne.symm hne.1) (no p ⟨_, h2, fun cur => by simp⟩)) (h.block b F.lt.2 (Ne.symm hne.2) (no b ⟨_, h3, fun cur => by simp⟩)) (h.block _ F.lay.1 (by omega) (lo _ (by decide))) (h.block _ F.laym.1 (by omega) (lo _ (by decide)))
theorem shrink_pop (hq : 1 < q) (hr : 1 < r) (hB : 1 < B) (hBw : B ≤ w.heap.size) (F : VX p b M w) (hs : M.s.st < 1000000) (ok : KNum o) (hsh : o.k.sh = true) (hl : o.k.ln = 5) (hk : KeptAt B kv o.k.kept w) (hw : U64 ws)
    (k : Bq q 63 (SC 5 (.iface 164 (.pointer (some ⟨r, 0, none⟩))) o.k.seg (8 * o.k.seg) ws 0 o.k.looks kv) w) (kr : Bq r 210 [.int .i64 o.k.psh.nx, .int .u64 o.k.psh.h, .int .i64 o.k.psh.to] w) :
    Calls Tryz.prog 35 #[.pointer (some ⟨q, 0, none⟩), .pointer (some ⟨p, 0, none⟩)] w (ShStepped B p b q r r1 kv (kX o M) w) := by
  obtain ⟨⟨sh, ln, seg, looks, slot, w0, psh, pk, kept⟩, err⟩ := o
  simp only at hsh hl hk k kr
  subst hsh hl
  obtain ⟨h1, _, _, _, _, h6, _, _, _, h10, h11, _, _, h14, h15⟩ := ok
  simp only at h1 h6 h10 h11 h14 h15
  obtain ⟨p1, p2, p3⟩ := h6 (by simp)
  have hk255 := h15 (by simp)
  have hqr : q ≠ r := k.ne kr (by decide)
  have ne9 := F.ne (by decide) k
  obtain ⟨u1, u2, u3⟩ := popX_in p1 F.u64 ⟨p2, p3⟩
  have kx : ∀ {e : KX × MV}, shrinkX ⟨⟨true, 5, seg, looks, slot, w0, psh, pk, kept⟩, err⟩ M = e → kX ⟨⟨true, 5, seg, looks, slot, w0, psh, pk, kept⟩, err⟩ M = e := fun he => by unfold kX; rw [if_neg (by simp), if_neg (by simp), he]
  have st := pop_stepX hr F hs p1 ⟨p2, p3⟩ kr
  -- what holds behind the part's step
  have beh : ∀ {X : World}, SteppedX 210 p b r (popX psh M) w X → Bq q 63 (SC 5 (.iface 164 (.pointer (some ⟨r, 0, none⟩))) seg (8 * seg) ws 0 looks kv) X ∧ KeptAt B kv kept X ∧ Onl p b (q :: r :: r1 :: kv.ownBlock.toList) w X := fun {X} h => by
    have O : Onl p b [r] w X := Onl.of_only3 h.2.2 (by simp)
    exact ⟨k.onl O ne9.1 ne9.2 (by simpa using hqr), hk.onl F O (fun g hg => by simpa using hk.ne kr (by decide) hg), O.more (by simp)⟩
  by_cases c0 : (popX psh M).1.nx = 0
  · have st1 : Calls Tryz.prog 191 #[.pointer (some ⟨r, 0, none⟩), .pointer (some ⟨p, 0, none⟩)] w fun e X => e = .returned (.bool true) ∧ SteppedX 210 p b r (popX psh M) w X := st.mono fun e X h => ⟨by rw [h.1, c0]; rfl, h.2⟩
    by_cases cn : wSlot (popX psh M).1.h < 0
    · have gt : ∀ X, SteppedX 210 p b r (popX psh M) w X → Calls Tryz.prog 111 #[.pointer (some ⟨r, 0, none⟩)] X fun e X' => e = .returned (.tuple #[.int .i64 0, .bool false]) ∧ Below X.heap.size X X' := fun X h => by
        refine (got_none h.2.1.lay u1 cn (by have := h.1; rw [c0] at this; exact this)).mono ?_
        rintro e X' ⟨rfl, n, rfl⟩
        exact ⟨rfl, below_drewN' (Below.refl _ _) n⟩
      by_cases ck : kept = []
      · subst ck
        rw [kx (show shrinkX _ M = (⟨⟨true, 3, seg, looks, slot, w0, (popX psh M).1, pk, []⟩, err⟩, (popX psh M).2) by simp [shrinkX, c0, cn, KO.seven])]
        refine (gShrink_run k (run_Pop (n := 3) rfl Tryz.call191 (mt_Pop r) k st1 (fun X h => (beh h).1) gt (P := fun X => ShMid B p b q r r1 kv (⟨⟨true, 3, seg, looks, slot, w0, (popX psh M).1, pk, []⟩, err⟩, (popX psh M).2) w X) (fun X Y h hb => found_none ((gbNone ((beh h).1.below hb) ((beh h).2.1.below hb)).mono ?_))) (fun X h => h.bq)).mono ?_
        · rintro e w' ⟨rfl, rfl⟩
          exact ⟨rfl, r, r1, kv, ⟨fun _ => (beh h).2.1.below hb, .inl ⟨by simp, _, ws, hw, (beh h).1.below hb⟩⟩, h.2.1.below hb, (beh h).2.2.trans (.of_below hb), .inl rfl, .inl rfl, .inl rfl⟩
        · rintro e w' ⟨rfl, X, h, rfl⟩
          exact h.fin hq rfl (by simp) rfl
      · rw [kx (show shrinkX _ M = (⟨⟨true, 7, seg, looks, slot, w0, ⟨1, 0, kept.getLastD 0⟩, pk, kept⟩, err⟩, (popX psh M).2) by simp [shrinkX, c0, cn, KO.seven, ck])]
        refine (gShrink_run k (run_Pop (n := 5) rfl Tryz.call191 (mt_Pop r) k st1 (fun X h => (beh h).1) gt (P := fun X => ShMid B p b q r r1 kv (⟨⟨true, 7, seg, looks, slot, w0, ⟨1, 0, kept.getLastD 0⟩, pk, kept⟩, err⟩, (popX psh M).2) w X) (fun X Y h hb => found_none ((gbSome (by decide) ((beh h).1.below hb) ((beh h).2.1.below hb) ck h10 h11).mono ?_))) (fun X h => h.bq)).mono ?_
        · rintro e w' ⟨rfl, r', g1, kr', kq', ho, hk'⟩
          have O := (beh h).2.2.trans (Onl.of_below hb)
          have F' := h.2.1.below hb
          exact ⟨rfl, r', r1, kv, ⟨fun _ => hk', .inr (.inr (.inr (.inl ⟨rfl, ws, hw, kq', kr'⟩)))⟩, F'.onlyq ho ne9.1 ne9.2 hq, O.trans ho.onlE, .inr (Nat.le_trans O.size g1), .inl rfl, .inl rfl⟩
        · rintro e w' ⟨rfl, X, h, rfl⟩
          exact h.fin hq rfl (by simp) rfl
    · have hy : 0 ≤ wSlot (popX psh M).1.h ∧ wSlot (popX psh M).1.h < 256 := ⟨by omega, by have := (slot_in (popX psh M).1.h).2; omega⟩
      have gt : ∀ X, SteppedX 210 p b r (popX psh M) w X → Calls Tryz.prog 111 #[.pointer (some ⟨r, 0, none⟩)] X fun e X' => e = .returned (.tuple #[.int .i64 (wSlot (popX psh M).1.h), .bool true]) ∧ Below X.heap.size X X' := fun X h => by
        refine (got_slot h.2.1.lay u1 hy.1 (by have := h.1; rw [c0] at this; exact this)).mono ?_
        rintro e X' ⟨rfl, n, rfl⟩
        exact ⟨rfl, below_drewN' (Below.refl _ _) n⟩
      generalize hyy : wSlot (popX psh M).1.h = y at hy gt
      have e0 : shrinkX ⟨⟨true, 5, seg, looks, slot, w0, psh, pk, kept⟩, err⟩ M = (popped ⟨⟨true, 5, seg, looks, slot, w0, psh, pk, kept⟩, err⟩ y, (popX psh M).2) := by
        have hy0 : ¬ y < 0 := by omega
        simp [shrinkX, c0, hyy, hy0]
      by_cases cs : segF y = seg
      · rw [kx (e0.trans (show _ = (⟨⟨true, 6, seg, looks, slot, w0, psh, newPark y, kept⟩, err⟩, (popX psh M).2) by simp [popped, cs]))]
        refine (gShrink_run k (run_Pop (n := 5) rfl Tryz.call191 (mt_Pop r) k st1 (fun X h => (beh h).1) gt (P := fun X => ShMid B p b q r r1 kv (⟨⟨true, 6, seg, looks, slot, w0, psh, newPark y, kept⟩, err⟩, (popX psh M).2) w X) (fun X Y h hb => (found_own hy cs ((beh h).1.below hb)).mono ?_)) (fun X h => h.bq)).mono ?_
        · rintro e w' ⟨rfl, r', r1', g1, g2, kr', kr1', kq', ho⟩
          have O := (beh h).2.2.trans (Onl.of_below hb)
          have F' := h.2.1.below hb
          have hk' := ((beh h).2.1.below hb).keepO ho ((beh h).1.below hb) (by decide)
          exact ⟨rfl, r', r1', kv, ⟨fun _ => hk', .inr (.inr (.inl ⟨rfl, ws, hw, kq', .inr ⟨_, _, _, .l1 rfl, kr', kr1'⟩, by simp [newPark]⟩))⟩, F'.onlyq ho ne9.1 ne9.2 hq, O.trans ho.onlE, .inr (by have := O.size; omega), .inr (Nat.le_trans O.size g1), .inl rfl⟩
        · rintro e w' ⟨rfl, X, h, rfl⟩
          exact h.fin hq rfl (by simp) rfl
      · have fk : ∀ X Y, SteppedX 210 p b r (popX psh M) w X → Below X.heap.size X Y → Calls Tryz.prog 110 #[.pointer (some ⟨q, 0, none⟩), .int .i64 y, .bool true] Y fun e w' => e = .returned (.int .i64 5) ∧ FoundKeep B q 63 5 seg (8 * seg) ws 0 looks kv kept y Y w' := fun X Y h hb =>
          found_keep (by decide) hy cs (by omega) (Nat.le_trans hBw (Nat.le_trans h.2.2.size hb.size)) ((beh h).1.below hb) ((beh h).2.1.below hb)
        have fin : ∀ {X Y w' : World}, SteppedX 210 p b r (popX psh M) w X → Below X.heap.size X Y → Onk q kv.ownBlock Y w' → VX p b (popX psh M).2 w' ∧ Onl p b (q :: r :: r1 :: kv.ownBlock.toList) w w' ∧ w.heap.size ≤ Y.heap.size := fun {X Y w'} h hb ho => by
          have O := (beh h).2.2.trans (Onl.of_below hb)
          exact ⟨(h.2.1.below hb).onk ho hq ((beh h).1.below hb) ((beh h).2.1.below hb) hB rfl, O.trans ho.onl, O.size⟩
        by_cases cm : 256 ≤ kept.length + 1
        · rw [kx (e0.trans (show _ = (⟨⟨true, 7, seg, looks, slot, w0, ⟨1, 0, y⟩, pk, kept ++ [y]⟩, err⟩, (popX psh M).2) by simp [popped, cs, cm, KO.seven]))]
          refine (gShrink_run k (run_Pop (n := 5) rfl Tryz.call191 (mt_Pop r) k st1 (fun X h => (beh h).1) gt (P := fun X => ShMid B p b q r r1 kv (⟨⟨true, 7, seg, looks, slot, w0, ⟨1, 0, y⟩, pk, kept ++ [y]⟩, err⟩, (popX psh M).2) w X) (fun X Y h hb => (fk X Y h hb).mono ?_)) (fun X h => h.bq)).mono ?_
          · rintro e w' ⟨rfl, r', pt', kv', g1, hp, kq', hk', ho, g3⟩
            obtain ⟨F', O, hY⟩ := fin h hb ho
            rcases hp with ⟨_, rfl, kr'⟩ | ⟨hp, _⟩
            · exact ⟨rfl, r', r1, kv', ⟨fun _ => hk', .inr (.inr (.inr (.inl ⟨rfl, ws, hw, kq', kr'⟩)))⟩, F', O, .inr (Nat.le_trans hY g1), .inl rfl, g3.elim .inl fun ⟨g, e, h⟩ => .inr ⟨g, e, Nat.le_trans hY h⟩⟩
            · omega
          · rintro e w' ⟨rfl, X, h, rfl⟩
            exact h.fin hq rfl (by simp) rfl
        · rw [kx (e0.trans (show _ = (⟨⟨true, 5, seg, looks, slot, w0, ⟨1, 0, 0⟩, pk, kept ++ [y]⟩, err⟩, (popX psh M).2) by simp [popped, cs, cm]))]
          refine (gShrink_run k (run_Pop (n := 5) rfl Tryz.call191 (mt_Pop r) k st1 (fun X h => (beh h).1) gt (P := fun X => ShMid B p b q r r1 kv (⟨⟨true, 5, seg, looks, slot, w0, ⟨1, 0, 0⟩, pk, kept ++ [y]⟩, err⟩, (popX psh M).2) w X) (fun X Y h hb => (fk X Y h hb).mono ?_)) (fun X h => h.bq)).mono ?_
          · rintro e w' ⟨rfl, r', pt', kv', g1, hp, kq', hk', ho, g3⟩
            obtain ⟨F', O, hY⟩ := fin h hb ho
            rcases hp with ⟨hp, _⟩ | ⟨_, rfl, kr'⟩
            · omega
            · exact ⟨rfl, r', r1, kv', ⟨fun _ => hk', .inr (.inl ⟨rfl, ws, hw, kq', kr'⟩)⟩, F', O, .inr (Nat.le_trans hY g1), .inl rfl, g3.elim .inl fun ⟨g, e, h⟩ => .inr ⟨g, e, Nat.le_trans hY h⟩⟩
          · rintro e w' ⟨rfl, X, h, rfl⟩
            exact h.fin hq rfl (by simp) rfl
  · rw [kx (show shrinkX _ M = (⟨⟨true, 5, seg, looks, slot, w0, (popX psh M).1, pk, kept⟩, err⟩, (popX psh M).2) by simp [shrinkX, c0])]
    have st1 : Calls Tryz.prog 191 #[.pointer (some ⟨r, 0, none⟩), .pointer (some ⟨p, 0, none⟩)] w fun e X => e = .returned (.bool false) ∧ SteppedX 210 p b r (popX psh M) w X := st.mono fun e X h => ⟨by rw [h.1, beq_eq_false_iff_ne.2 c0], h.2⟩
    refine (gShrink_run k (run_no Tryz.call191 (mt_Pop r) k st1) (fun X h => sc_bq (beh h).1)).mono ?_
    rintro e w' ⟨rfl, X, h, rfl⟩
    exact shFin hq rfl (by simp) ⟨fun _ => (beh h).2.1, .inr (.inl ⟨rfl, ws, hw, (beh h).1, h.1⟩)⟩ h.2.1 (beh h).2.2 (.inl rfl) (.inl rfl) (.inl rfl) rfl
end
end Go.Proofs.YtmjcbjcnmgleaaaGreatDoor
namespace Go.Proofs.YtmjcbjcnmgleaaaGreatDoor
open Go.RowKit Go.Maps
section
variable {B p b q r r1 r' r1' : Nat} {E : List Nat} {T : TypeId} {nx n sg sl ws en lk : Int} {pt kv kv' : Value} {tl : List Value} {cs : List Value} {xs : List Int} {M M' : MV} {o : KX} {R : KX × MV} {w w' X Y : World}
theorem PkPart.ni {o : PO} {pt bt : TypeId} {cs : List Value} (h : PkPart o pt bt cs) : bt ≠ 3 := by
  cases h <;> decide
theorem KeptAt.nePk {o : PO} (h : KeptAt B kv xs w) (P : PkX r r1 o w) (h0 : o.ln ≠ 0) {g : Nat} (hg : kv.ownBlock = some g) : g ≠ r ∧ g ≠ r1 := by
  rcases P with ⟨e, _⟩ | ⟨pt, bt, cs, hp, k1, k2⟩
  · exact absurd e h0
  · exact ⟨h.ne k1 (by decide) hg, h.ne k2 hp.ni hg⟩
theorem shrink_park (hq : 1 < q) (hr : 1 < r) (hr1 : 1 < r1) (F : VX p b M w) (hs : M.s.st < 1000000) (ok : KNum o) (hsh : o.k.sh = true) (hl : o.k.ln = 6) (hk : KeptAt B kv o.k.kept w) (hw : U64 ws)
    (k : Bq q 63 (SC 5 (.iface 214 (.pointer (some ⟨r, 0, none⟩))) o.k.seg (8 * o.k.seg) ws 0 o.k.looks kv) w) (kr : PkX r r1 o.k.pk w) (hp0 : o.k.pk.ln ≠ 0) :
    Calls Tryz.prog 35 #[.pointer (some ⟨q, 0, none⟩), .pointer (some ⟨p, 0, none⟩)] w (ShStepped B p b q r r1 kv (kX o M) w) := by
  obtain ⟨⟨sh, ln, seg, looks, slot, w0, psh, pk, kept⟩, err⟩ := o
  simp only at hsh hl hk k kr hp0
  subst hsh hl
  have hpn := (ok.pk rfl).1
  simp only at hpn
  have ne9 := F.ne (by decide) k
  have hne := kr.ne9 hp0 k
  have kx : ∀ {e : KX × MV}, shrinkX ⟨⟨true, 6, seg, looks, slot, w0, psh, pk, kept⟩, err⟩ M = e → kX ⟨⟨true, 6, seg, looks, slot, w0, psh, pk, kept⟩, err⟩ M = e := fun he => by unfold kX; rw [if_neg (by simp), if_neg (by simp), he]
  have st := park_stepX hr hr1 F hs hpn kr
  have beh : ∀ {X : World}, Onl p b [r, r1] w X → Bq q 63 (SC 5 (.iface 214 (.pointer (some ⟨r, 0, none⟩))) seg (8 * seg) ws 0 looks kv) X ∧ KeptAt B kv kept X ∧ Onl p b (q :: r :: r1 :: kv.ownBlock.toList) w X := fun {X} O =>
    ⟨k.onl O ne9.1 ne9.2 (by simp only [List.mem_cons, List.not_mem_nil, or_false, not_or]; exact ⟨Ne.symm hne.1, Ne.symm hne.2⟩), hk.onl F O (fun g hg => by have := hk.nePk kr hp0 hg; simp only [List.mem_cons, List.not_mem_nil, or_false, not_or]; exact this), O.more (by simp)⟩
  by_cases c0 : (parkX pk M).1.ln = 0
  · rw [kx (show shrinkX _ M = (⟨⟨true, 5, seg, looks, slot, w0, ⟨1, 0, 0⟩, (parkX pk M).1, kept⟩, err⟩, (parkX pk M).2) by simp [shrinkX, c0])]
    have st1 : Calls Tryz.prog 195 #[.pointer (some ⟨r, 0, none⟩), .pointer (some ⟨p, 0, none⟩)] w fun e X => e = .returned (.bool true) ∧ (VX p b (parkX pk M).2 X ∧ Onl p b [r, r1] w X) := st.mono fun e X ⟨h1, r', _, h3, h4, _⟩ => ⟨by rw [h1, c0]; rfl, h3, h4⟩
    refine (gShrink_run k (run_Park (n := 5) rfl Tryz.call195 (mt_Park r) k st1 (fun X h => (beh h.2).1) (P := fun X => ShMid B p b q r r1 kv (⟨⟨true, 5, seg, looks, slot, w0, ⟨1, 0, 0⟩, (parkX pk M).1, kept⟩, err⟩, (parkX pk M).2) w X) (fun X h => (seek_any (beh h.2).1).mono ?_)) (fun X h => h.bq)).mono ?_
    · rintro e w' ⟨rfl, r', g1, kr', kq', ho⟩
      have O := (beh h.2).2.2
      exact ⟨rfl, r', r1, kv, ⟨fun _ => (beh h.2).2.1.keepO ho (beh h.2).1 (by decide), .inr (.inl ⟨rfl, ws, hw, kq', kr'⟩)⟩, h.1.onlyq ho ne9.1 ne9.2 hq, O.trans ho.onlE, .inr (Nat.le_trans O.size g1), .inl rfl, .inl rfl⟩
    · rintro e w' ⟨rfl, X, h, rfl⟩
      exact h.fin hq rfl (by simp) rfl
  · rw [kx (show shrinkX _ M = (⟨⟨true, 6, seg, looks, slot, w0, psh, (parkX pk M).1, kept⟩, err⟩, (parkX pk M).2) by simp [shrinkX, c0])]
    have st1 : Calls Tryz.prog 195 #[.pointer (some ⟨r, 0, none⟩), .pointer (some ⟨p, 0, none⟩)] w fun e X => e = .returned (.bool false) ∧ ∃ r', PkX r r' (parkX pk M).1 X ∧ VX p b (parkX pk M).2 X ∧ Onl p b [r, r1] w X ∧ (r' = r1 ∨ w.heap.size ≤ r') := st.mono fun e X ⟨h1, h2⟩ => ⟨by rw [h1, beq_eq_false_iff_ne.2 c0], h2⟩
    refine (gShrink_run k (run_no Tryz.call195 (mt_Park r) k st1) (fun X ⟨_, _, _, h, _⟩ => sc_bq (beh h).1)).mono ?_
    rintro e w' ⟨rfl, X, ⟨r', h1, h2, h3, h4⟩, rfl⟩
    exact shFin hq rfl (by simp) ⟨fun _ => (beh h3).2.1, .inr (.inr (.inl ⟨rfl, ws, hw, (beh h3).1, h1, c0⟩))⟩ h2 (beh h3).2.2 (.inl rfl) h4 (.inl rfl) rfl
theorem KeptAt.drop {ad : Option Addr} {nn cap : Nat} (h : KeptAt B (.slice ad (nn + 1) cap) xs w) : nn + 1 ≤ cap ∧ xs.length = nn + 1 ∧ KeptAt B (.slice ad nn cap) xs.dropLast w := by
  rcases h.2 with ⟨e, _⟩ | ⟨g, cap', cur, e, h1, h2, h3, h4, h5, h6⟩
  · simp at e
  · simp only [Value.slice.injEq] at e
    obtain ⟨rfl, e2, rfl⟩ := e
    refine ⟨by omega, e2.symm, ?_⟩
    have hl : xs.dropLast.length = nn := by rw [List.length_dropLast]; omega
    unfold KeptAt
    rw [hl]
    refine ⟨by rw [List.length_map, hl]; omega, .inr ⟨g, cap, cur, rfl, h1, h2, by omega, h4, h5, ?_⟩⟩
    rw [← e2] at h6
    have h7 := congrArg (List.take nn) h6
    rw [List.take_take, Nat.min_eq_left (by omega)] at h7
    rw [Nat.mul_one, h7, ← List.map_take, List.dropLast_eq_take, ← e2, Nat.add_sub_cancel]
theorem shrink_push (hq : 1 < q) (hr : 1 < r) (F : VX p b M w) (hs : M.s.st < 1000000) (ok : KNum o) (hsh : o.k.sh = true) (hl : o.k.ln = 7) (hk : KeptAt B kv o.k.kept w) (hw : U64 ws)
    (k : Bq q 63 (SC 5 (.iface 152 (.pointer (some ⟨r, 0, none⟩))) o.k.seg (8 * o.k.seg) ws 0 o.k.looks kv) w) (kr : Bq r 198 [.int .i64 o.k.psh.nx, .int .u64 o.k.psh.h, .int .i64 o.k.psh.to] w) :
    Calls Tryz.prog 35 #[.pointer (some ⟨q, 0, none⟩), .pointer (some ⟨p, 0, none⟩)] w (ShStepped B p b q r r1 kv (kX o M) w) := by
  obtain ⟨⟨sh, ln, seg, looks, slot, w0, psh, pk, kept⟩, err⟩ := o
  simp only at hsh hl hk k kr
  subst hsh hl
  obtain ⟨p1, p2, p3⟩ := ok.psh (.inr (.inl rfl))
  obtain ⟨hne, hto⟩ := ok.p7 rfl
  have h10 := ok.kept
  have h11 := ok.klen
  simp only at p1 p2 p3 hne hto h10 h11
  have hqr : q ≠ r := k.ne kr (by decide)
  have ne9 := F.ne (by decide) k
  have hto2 : psh.nx = 2 → I64w psh.to := fun _ => by
    rw [hto]
    exact slot_i64 (h10 _ (last_of hne).1)
  have kx : ∀ {e : KX × MV}, shrinkX ⟨⟨true, 7, seg, looks, slot, w0, psh, pk, kept⟩, err⟩ M = e → kX ⟨⟨true, 7, seg, looks, slot, w0, psh, pk, kept⟩, err⟩ M = e := fun he => by unfold kX; rw [if_neg (by simp), if_neg (by simp), he]
  have st := push_stepX hr F hs p1 ⟨p2, p3⟩ hto2 kr
  have beh : ∀ {X : World}, SteppedX 198 p b r (pushX psh M) w X → Bq q 63 (SC 5 (.iface 152 (.pointer (some ⟨r, 0, none⟩))) seg (8 * seg) ws 0 looks kv) X ∧ KeptAt B kv kept X ∧ Onl p b (q :: r :: r1 :: kv.ownBlock.toList) w X := fun {X} h => by
    have O : Onl p b [r] w X := Onl.of_only3 h.2.2 (by simp)
    exact ⟨k.onl O ne9.1 ne9.2 (by simpa using hqr), hk.onl F O (fun g hg => by simpa using hk.ne kr (by decide) hg), O.more (by simp)⟩
  by_cases c0 : (pushX psh M).1.nx = 0
  · have st1 : Calls Tryz.prog 83 #[.pointer (some ⟨r, 0, none⟩), .pointer (some ⟨p, 0, none⟩)] w fun e X => e = .returned (.bool true) ∧ SteppedX 198 p b r (pushX psh M) w X := st.mono fun e X h => ⟨by rw [h.1, c0]; rfl, h.2⟩
    obtain ⟨ad, cap, rfl, _⟩ := own_sliceK hk
    obtain ⟨nn, hnn⟩ : ∃ nn, kept.length = nn + 1 := ⟨kept.length - 1, by have := List.length_pos_iff.2 hne; omega⟩
    rw [hnn] at hk k beh
    obtain ⟨d1, d2, _⟩ := hk.drop
    have hcells : ∀ {X Y : World}, SteppedX 198 p b r (pushX psh M) w X → Below (X.setCell ⟨q, 7, none⟩ (.slice ad nn cap)).heap.size (X.setCell ⟨q, 7, none⟩ (.slice ad nn cap)) Y → Bq q 63 (SC 5 (.iface 152 (.pointer (some ⟨r, 0, none⟩))) seg (8 * seg) ws 0 looks (.slice ad nn cap)) Y ∧ KeptAt B (.slice ad nn cap) kept.dropLast Y ∧ VX p b (pushX psh M).2 Y ∧ Onl p b (q :: r :: r1 :: (Value.slice ad (nn + 1) cap).ownBlock.toList) w Y := fun {X Y} h hb => by
      have kX : Bq q 63 (SC 5 (.iface 152 (.pointer (some ⟨r, 0, none⟩))) seg (8 * seg) ws 0 looks (.slice ad nn cap)) (X.setCell ⟨q, 7, none⟩ (.slice ad nn cap)) := (beh h).1.set 7 _ rfl
      exact ⟨kX.below hb, (((beh h).2.1.drop.2.2).set (beh h).1 (by decide) 7 _).below hb, (h.2.1.setQ ne9.1 ne9.2 hq 7 _).below hb, ((beh h).2.2.trans (.setCell _ (by simp) 7 _)).trans (.of_below hb)⟩
    have hob : (Value.slice ad nn cap).ownBlock = (Value.slice ad (nn + 1) cap).ownBlock := by cases ad <;> rfl
    rw [hnn]
    by_cases ck : kept.dropLast = []
    · rw [kx (show shrinkX _ M = (⟨⟨true, 3, seg, looks, slot, w0, psh, pk, []⟩, err⟩, (pushX psh M).2) by simp [shrinkX, c0, KO.seven, ck])]
      refine (gShrink_run k (run_Push (n := 3) rfl Tryz.call83 (mt_Push r) k st1 (fun X h => (beh h).1) rfl d1 (by omega) (P := fun X => ShMid B p b q r r1 (.slice ad (nn + 1) cap) (⟨⟨true, 3, seg, looks, slot, w0, psh, pk, []⟩, err⟩, (pushX psh M).2) w X) (fun X Y h hb => (gbNone (B := B) (hcells h hb).1 (by have := (hcells h hb).2.1; rw [ck] at this; exact this)).mono ?_)) (fun X h => h.bq)).mono ?_
      · rintro e w' ⟨rfl, rfl⟩
        obtain ⟨y1, y2, y3, y4⟩ := hcells h hb
        rw [ck] at y2
        exact ⟨rfl, r, r1, _, ⟨fun _ => y2, .inl ⟨by simp, _, ws, hw, y1⟩⟩, y3, y4, .inl rfl, .inl rfl, .inl hob⟩
      · rintro e w' ⟨rfl, X, h, rfl⟩
        exact h.fin hq rfl (by simp) rfl
    · rw [kx (show shrinkX _ M = (⟨⟨true, 7, seg, looks, slot, w0, ⟨1, 0, kept.dropLast.getLastD 0⟩, pk, kept.dropLast⟩, err⟩, (pushX psh M).2) by simp [shrinkX, c0, KO.seven, ck])]
      refine (gShrink_run k (run_Push (n := 5) rfl Tryz.call83 (mt_Push r) k st1 (fun X h => (beh h).1) rfl d1 (by omega) (P := fun X => ShMid B p b q r r1 (.slice ad (nn + 1) cap) (⟨⟨true, 7, seg, looks, slot, w0, ⟨1, 0, kept.dropLast.getLastD 0⟩, pk, kept.dropLast⟩, err⟩, (pushX psh M).2) w X) (fun X Y h hb => (gbSome (by decide) (hcells h hb).1 (hcells h hb).2.1 ck (fun z hz => h10 z (List.dropLast_subset _ hz)) (by rw [List.length_dropLast]; omega)).mono ?_)) (fun X h => h.bq)).mono ?_
      · rintro e w' ⟨rfl, r', g1, kr', kq', ho, hk'⟩
        obtain ⟨y1, y2, y3, y4⟩ := hcells h hb
        exact ⟨rfl, r', r1, _, ⟨fun _ => hk', .inr (.inr (.inr (.inl ⟨rfl, ws, hw, kq', kr'⟩)))⟩, y3.onlyq ho ne9.1 ne9.2 hq, y4.trans ho.onlE, .inr (Nat.le_trans y4.size g1), .inl rfl, .inl hob⟩
      · rintro e w' ⟨rfl, X, h, rfl⟩
        exact h.fin hq rfl (by simp) rfl
  · rw [kx (show shrinkX _ M = (⟨⟨true, 7, seg, looks, slot, w0, (pushX psh M).1, pk, kept⟩, err⟩, (pushX psh M).2) by simp [shrinkX, c0])]
    have st1 : Calls Tryz.prog 83 #[.pointer (some ⟨r, 0, none⟩), .pointer (some ⟨p, 0, none⟩)] w fun e X => e = .returned (.bool false) ∧ SteppedX 198 p b r (pushX psh M) w X := st.mono fun e X h => ⟨by rw [h.1, beq_eq_false_iff_ne.2 c0], h.2⟩
    refine (gShrink_run k (run_no Tryz.call83 (mt_Push r) k st1) (fun X h => sc_bq (beh h).1)).mono ?_
    rintro e w' ⟨rfl, X, h, rfl⟩
    exact shFin hq rfl (by simp) ⟨fun _ => (beh h).2.1, .inr (.inr (.inr (.inl ⟨rfl, ws, hw, (beh h).1, h.1⟩)))⟩ h.2.1 (beh h).2.2 (.inl rfl) (.inl rfl) (.inl rfl) rfl
theorem shrink_stepX (hq : 1 < q) (hr : 1 < r) (hr1 : 1 < r1) (hB : 1 < B) (hBw : B ≤ w.heap.size) (F : VX p b M w) (hs : M.s.st < 1000000) (ok : KNum o) (_h0 : o.k.sh = true ∨ o.k.ln = 0) (P : ShRep B q r r1 o kv w) :
    Calls Tryz.prog 35 #[.pointer (some ⟨q, 0, none⟩), .pointer (some ⟨p, 0, none⟩)] w (ShStepped B p b q r r1 kv (kX o M) w) := by
  rcases P with ⟨hl, pt, sg, sl, ws, lk, k⟩ | ⟨hsh, hl0, hk, P⟩
  · have e : kX o M = (o, M) := by
      unfold kX
      rw [if_neg (by omega)]
      split
      · simp [growX, hl]
      · simp [shrinkX, hl]
    rw [e]
    refine (stepShrink_over _ k).mono ?_
    rintro e w' ⟨rfl, rfl⟩
    exact ⟨by rw [hl]; rfl, r, r1, kv, .inl ⟨hl, pt, sg, sl, ws, lk, k⟩, F, .refl _, .inl rfl, .inl rfl, .inl rfl⟩
  · rcases P with ⟨hl, pt, ws, hw, k⟩ | ⟨hl, ws, hw, k, kr⟩ | ⟨hl, ws, hw, k, kr, hp⟩ | ⟨hl, ws, hw, k, kr⟩ | ⟨hl, R⟩
    · exact shrink_mid hq hBw F hs ok hsh hl (hk (by omega)) hw k
    · rw [hl] at k
      exact shrink_pop hq hr hB hBw F hs ok hsh hl (hk (by omega)) hw k kr
    · rw [hl] at k
      exact shrink_park hq hr hr1 F hs ok hsh hl (hk (by omega)) hw k kr hp
    · rw [hl] at k
      exact shrink_push hq hr F hs ok hsh hl (hk (by omega)) hw k kr
    · have e : kX o M = turnX o M := by unfold kX; rw [if_pos hl]
      rw [e]
      have hl2 : 11 ≤ o.k.ln ∧ o.k.ln ≤ 15 := ⟨hl, by have := ok.ln; omega⟩
      obtain ⟨t1, t2, t3, t4⟩ := turnX_kinds o M hl2
      have T := turn_stepX hq hr (by decide) (by decide) F hs ok hl R
      obtain ⟨pt, sl, ws, k, r0⟩ := R
      have key : Calls Tryz.prog 35 #[.pointer (some ⟨q, 0, none⟩), .pointer (some ⟨p, 0, none⟩)] w fun e w' => e = .returned (.bool (nxL (turnX o M).1.k.ln == 0)) ∧ ∃ w1, (∃ r', TR q r' 63 (nxL o.k.ln) (turnX o M).1.k 9 [.int .i64 o.k.looks, kv] w1 ∧ VX p b (turnX o M).2 w1 ∧ Onl p b [q, r] w w1 ∧ (r' = r ∨ w.heap.size ≤ r')) ∧ w' = w1.setCell ⟨q, 0, none⟩ (.int .i64 (nxL (turnX o M).1.k.ln)) := by
        have hb : ∀ X, (∃ r', TR q r' 63 (nxL o.k.ln) (turnX o M).1.k 9 [.int .i64 o.k.looks, kv] X ∧ VX p b (turnX o M).2 X ∧ Onl p b [q, r] w X ∧ (r' = r ∨ w.heap.size ≤ r')) → ∃ nx pt' sg' sl' ws' en' tl', Bq q 63 (TC nx pt' sg' sl' ws' en' tl') X := fun X ⟨_, h, _⟩ => h.bq
        obtain h | h | h | h | h : o.k.ln = 11 ∨ o.k.ln = 12 ∨ o.k.ln = 13 ∨ o.k.ln = 14 ∨ o.k.ln = 15 := by omega
        · exact gShrink_turn7 (by rw [show nxL o.k.ln = 7 by rw [h]; rfl] at k; exact k) T hb
        · exact gShrink_turn8 (by rw [show nxL o.k.ln = 8 by rw [h]; rfl] at k; exact k) T hb
        · exact gShrink_turn9 (by rw [show nxL o.k.ln = 9 by rw [h]; rfl] at k; exact k) T hb
        · exact gShrink_turn10 (by rw [show nxL o.k.ln = 10 by rw [h]; rfl] at k; exact k) T hb
        · exact gShrink_turn11 (by rw [show nxL o.k.ln = 11 by rw [h]; rfl] at k; exact k) T hb
      refine key.mono ?_
      rintro e w' ⟨rfl, X, ⟨r', h1, h2, h3, h4⟩, rfl⟩
      have hb := h1.bq
      obtain ⟨_, _, _, _, _, _, _, kb⟩ := hb
      have O : Onl p b (q :: r :: r1 :: kv.ownBlock.toList) w X := h3.more (by simp)
      rcases t2 with ⟨t2, t5⟩ | t2
      · have hn0 : nxL (turnX o M).1.k.ln = 0 := by rw [t2]; rfl
        rw [hn0]
        obtain ⟨pt', sl', ws', k', _⟩ := h1
        have hne := h2.ne (by decide) k'
        have k9 : Bq q 63 (TC 0 pt' (turnX o M).1.k.seg sl' ws' (turnX o M).1.err [.int .i64 o.k.looks, kv]) (X.setCell ⟨q, 0, none⟩ (.int .i64 0)) := by
          rw [t5, hsh, if_pos rfl]
          exact k'.set 0 _ rfl
        exact ⟨by rw [t2], r, r1, kv, .inl ⟨t2, pt', _, sl', ws', _, k9⟩, h2.setQ hne.1 hne.2 hq 0 _, O.trans (.setCell _ (by simp) 0 _), .inl rfl, .inl rfl, .inl rfl⟩
      · refine shFin (nx := nxL o.k.ln) hq (t1.trans hsh) (.inr t2) ⟨fun h => by omega, .inr (.inr (.inr (.inr ⟨t2.1, ?_⟩)))⟩ h2 O h4 (.inl rfl) (.inl rfl) rfl
        rw [t4]
        exact h1
end
end Go.Proofs.YtmjcbjcnmgleaaaGreatDoor
