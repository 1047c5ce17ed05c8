/-
  A list that is filled; the slots of a list, in order; condition: the tables as laid, the list lies as it says.
-/
import Derived.Test.YtipgidkpjilhoaaDoorH8
import Derived.Test.YtipgidkpjilhoaaDoorH3
namespace Go.Proofs.YtipgidkpjilhoaaDoor
open Go.RowKit Go.Maps

def FilledP (n : Nat) (W : World) (e : Ending) (w' : World) : Prop := ∃ p b, e = .returned (.tuple #[.pointer (some ⟨p, 0, none⟩), .bool true]) ∧ SM p b (3 * n) (downS n) n w' ∧ Below W.heap.size W w' ∧ W.heap.size ≤ p ∧ W.heap.size ≤ b
set_option maxRecDepth 100000 in
set_option maxHeartbeats 4000000 in
theorem filled_any (n : Nat) (hn : n ≤ 60) (W : World) (hL : Lay W) (hM : LayM W) : Calls Tryd.prog 23 #[.int .i64 n] W (FilledP n W) := by
  have h1W := hM.1
  have hn' : (n : Int) ≤ 60 := by omega
  have hnew := new_fm hL hM
  clear hL hM
  go_enter Tryd.func23, Tryd.ntmps23
  go_wp2_with fail
  ((with_reducible refine hnew.mono ?_); rintro e w1 ⟨p, b, rfl, F1, hb1, hwb, hbp⟩)
  have HS := Lib.hid (show SM p b 0 [] 0 w1 from ⟨0, M0, Nat.le_refl _, F1, Stk.start⟩)
  have HLOW := Lib.hid hb1
  have hpW : W.heap.size ≤ p := by omega
  have h1p : 1 < p := F1.p1
  have h1b : 1 < b := F1.b1
  clear hnew F1 hb1
  go_wp2_with fail
  go_loopw [5] (fun j wr => ∃ i : Nat, i ≤ n ∧ j = .int .i64 (i : Int) ∧ Hid (SM p b (3 * i) (downS i) i wr ∧ Below W.heap.size W wr)) (fun j _ => n - (intOf j).toNat)
  case atStart => exact ⟨0, Nat.zero_le _, rfl, Lib.hid ⟨HS.out, HLOW.out⟩⟩
  case round =>
    clear HS HLOW
    obtain ⟨i, hi, rfl, hr⟩ := hrel
    by_cases hlt : i < n
    · obtain ⟨hsm, hlow⟩ := hr.out
      have hlt' : (i : Int) < (n : Int) := by omega
      have hge : (0 : Int) ≤ (i : Int) := by omega
      have HX := Lib.hid (down_notin i)
      have HDS := Lib.hid (show downS (i + 1) = (i : Int) :: downS i from rfl)
      have HLOW := Lib.hid hlow
      have hWw : W.heap.size ≤ wr.heap.size := hlow.size
      generalize downS i = r at hsm HX HDS
      have HK := Lib.hid hsm
      clear hsm hlow hr
      go_wp2_with fail
      ((with_reducible refine (newPush_any (i : Int) (by omega) (by omega) wr).mono ?_); rintro e w2 ⟨rfl, o2, hb2, hs2⟩)
      have HK2 := Lib.hid (HK.out.below hb2)
      have HLOW2 := Lib.hid (HLOW.out.trans (hb2.mono HLOW.out.size))
      have HO2 := Lib.hid o2
      clear o2 hb2 hs2 HK HLOW
      generalize wr.heap.size = q at *
      have h1q : 1 < q := by omega
      go_wp2_with fail
      ((with_reducible refine (push_a h1q HK2.out (by omega) HO2.out).mono ?_); rintro e w3 ⟨rfl, o3, s3, k3⟩)
      have HLOW3 := Lib.hid (HLOW2.out.trans (k3.below (B := W.heap.size) hpW hwb hWw (by have := HLOW2.out.size; omega)))
      have HK3 := Lib.hid s3
      have HO3 := Lib.hid o3
      clear o3 s3 k3 HK2 HO2 HLOW2
      go_wp2_with fail
      ((with_reducible refine (push_b h1q HK3.out (by omega) HX.out (by omega) (by omega) HO3.out).mono ?_); rintro e w4 ⟨rfl, o4, s4, k4⟩)
      have HLOW4 := Lib.hid (HLOW3.out.trans (k4.below (B := W.heap.size) hpW hwb hWw (by have := HLOW3.out.size; omega)))
      have HK4 := Lib.hid s4
      have HO4 := Lib.hid o4
      clear o4 s4 k4 HK3 HO3 HLOW3
      go_wp2_with fail
      ((with_reducible refine (push_c h1q HK4.out (by omega) HX.out (by omega) (by omega) (by omega) HO4.out).mono ?_); rintro e w5 ⟨rfl, o5, s5, k5⟩)
      have HLOW5 := Lib.hid (HLOW4.out.trans (k5.below (B := W.heap.size) hpW hwb hWw (by have := HLOW4.out.size; omega)))
      have HK5 := Lib.hid s5
      clear o5 s5 k5 HK4 HO4 HLOW4
      go_wp2_with fail
      go_roundw
      case rel => exact ⟨i + 1, by omega, by go_num, Lib.hid ⟨by rw [HDS.out]; exact_mod_cast HK5.out.mono (by omega), HLOW5.out⟩⟩
      case measure => simp [intOf]; omega
    · have hge : (n : Int) ≤ (i : Int) := by omega
      have hin : i = n := by omega
      have hr2 := hr.out
      rw [hin] at hr2
      have HR := Lib.hid hr2
      clear hr hr2 hin
      go_wp2_with fail
      go_ret2
      exact ⟨p, b, rfl, HR.out.1, HR.out.2, hpW, hwb⟩

section
variable {p b n : Nat} {s : List Int} {T : Int} {w : World}
/-- A link is looked at. -/
theorem sm_link {a r : List Int} {x : Int} (h : SM p b n (a ++ x :: r) T w) (hn : n < 900000) :
    Calls Tryd.prog 29 #[.pointer (some ⟨p, 0, none⟩), .agg #[.int .u8 9, .int .i64 x, .int .i64 2]] w fun e w' => ∃ v, e = .returned (.int .u64 v) ∧ U64 v ∧ wSlot v = topOf r ∧ SM p b (n + 1) (a ++ x :: r) T w' ∧ Only p b w w' := by
  obtain ⟨st, M, h1, ⟨⟨n', D, ak, k, aa, f, was, is, done, g1, g2, g3, g4, g5⟩, hl, hm, hp, hb⟩, S⟩ := h
  have hch : ∀ (a : List Int), Ch M.lk (a ++ x :: r) → 0 ≤ x ∧ x < 256 ∧ wSlot (M.lk x) = topOf r := by
    intro a
    induction a with
    | nil => exact fun h => h.1
    | cons y a ih => exact fun h => ih h.2
  obtain ⟨hx0, hx1, hx2⟩ := hch a S.ch
  have hx : I64w x := i64w_in (by omega) (by omega)
  refine (load_prog p b n' D st ak k aa f was is done (adL x hx) (by omega) (by omega) w g3).mono ?_
  rintro e w' ⟨rfl, m', ho⟩
  have ho3 := Only3.of_only (q := p) ho
  exact ⟨_, rfl, g3.val_u64 _, by rw [g5 x hx hx0 hx1]; exact hx2, ⟨st + 1, M, by omega, ⟨⟨n', D, _, _, _, _, _, _, _, by omega, g2, by exact_mod_cast m', g4, g5⟩, ho3.lay hp hb hp hl, ho3.laym hp hb hp hm, hp, hb⟩, S⟩, ho⟩
end
theorem SM.mid {p b n : Nat} {T : Int} {w : World} {a r : List Int} {x : Int} (h : SM p b n (a ++ x :: r) T w) : 0 ≤ x ∧ x < 256 := by
  obtain ⟨_, M, _, _, S⟩ := h
  have key : ∀ (a : List Int), Ch M.lk (a ++ x :: r) → 0 ≤ x ∧ x < 256 := by
    intro a
    induction a with
    | nil => exact fun h => ⟨h.1.1, h.1.2.1⟩
    | cons y a ih => exact fun h => ih h.2
  exact key a S.ch
/-- .. past an append to a row of the call's own. -/
theorem SM.grown {p b n : Nat} {s : List Int} {T : Int} {w w' : World} (h : SM p b n s T w) {base : Nat} (hb1 : 1 < base) {e : TypeId} {size : Nat} {v : Value} {m : Nat} {xs : List Value} (ho : w.ownsRow base e size v m xs) (he : e ≠ 107) (hg : w.grownBy w' v.ownBlock) : SM p b n s T w' := by
  obtain ⟨st, M, h1, F, S⟩ := h
  have hlt := F.lt
  have hbase : ∀ k, v.ownBlock = some k → base ≤ k := fun k hk => (ho.lt k hk).1
  have key : ∀ k, k < w.heap.size → (∀ g, v.ownBlock = some g → g ≠ k) → w'.heap[k]? = w.heap[k]? := fun k hk hne => hg.block k hk (fun e => hne k e.symm rfl)
  have hp : ∀ g, v.ownBlock = some g → g ≠ p ∧ g ≠ b := by
    intro g hgv
    obtain ⟨⟨_, _, _, _, _, _, _, _, _, _, _, hm, _⟩, _⟩ := F
    rcases ho.2 with ⟨rfl, _⟩ | ⟨g', cap, cur, rfl, _, hh, _⟩
    · simp [Value.ownBlock] at hgv
    · simp [Value.ownBlock] at hgv
      subst hgv
      constructor
      · rintro rfl
        have := hm.blk.symm.trans hh
        simp only [Option.some.injEq, Obj.cells.injEq] at this
        exact he this.2.1.symm
      · rintro rfl
        obtain ⟨_, _, hb, _⟩ := hm.own
        have := hb.symm.trans hh
        simp at this
  refine ⟨st, M, h1, ?_, S⟩
  obtain ⟨⟨n', D, ak, k, a, f, was, is, done, g1, g2, g3, g4⟩, hl, hm, hp1, hb1'⟩ := F
  exact ⟨⟨n', D, ak, k, a, f, was, is, done, g1, g2, g3.keep3 (key p hlt.1 (fun g hg => (hp g hg).1)) (key b hlt.2 (fun g hg => (hp g hg).2)), g4⟩, hl.same3 hg.size (key 0 (by omega) (fun g hg => by have := hbase g hg; omega)), hm.same hg.size (key 1 (by omega) (fun g hg => by have := hbase g hg; omega)), hp1, hb1'⟩
def lenV : Value → Nat
  | .slice _ n _ => n
  | _ => 0
theorem Only.row {p b : Nat} {X Y Z : World} (h : Only p b X Y) {row : Option Nat} (hg : Y.grownBy Z row) (hr : ∀ k, row = some k → X.heap.size ≤ k) : Only p b X Z :=
  ⟨hg.os.trans h.os, hg.tape.trans h.tape, hg.output.trans h.output, Nat.le_trans h.size hg.size, fun q hq h1 h2 => (hg.block q (Nat.lt_of_lt_of_le hq h.size) (fun e => by have := hr q e.symm; omega)).trans (h.block q hq h1 h2)⟩
def ListedP (p b n : Nat) (s : List Int) (T : Int) (W : World) (e : Ending) (w' : World) : Prop := ∃ v, e = .returned (.tuple #[v, .bool true]) ∧ w'.ownsRow W.heap.size 3 1 v s.length (s.map iV) ∧ SM p b (n + 100) s T w' ∧ Only p b W w'
set_option maxRecDepth 100000 in
set_option maxHeartbeats 4000000 in
theorem listed_any (p b n : Nat) (s : List Int) (T : Int) (W : World) (h : SM p b n s T W) (hn : n < 800000) (hlen : s.length ≤ 60) : Calls Tryd.prog 26 #[.pointer (some ⟨p, 0, none⟩)] W (ListedP p b n s T W) := by
  obtain ⟨i0, hi0, hz0, hz1, hz2⟩ := info_parts Tryd_infoI
  have HS := Lib.hid h
  have hpW := h.lt.1
  have h1W : 1 < W.heap.size := by have := h.p1.1; omega
  clear h
  go_enter Tryd.func26, Tryd.ntmps26
  go_wp2_with fail
  ((with_reducible refine (sm_load HS.out (by omega)).mono ?_); rintro e w1 ⟨rfl, s1, k1⟩)
  have hhd := asHead_any (headW (topOf s) T) w1 s1.lay (head_u64 _ _)
  rw [s1.top] at hhd
  have HS1 := Lib.hid s1
  have HLOW1 := Lib.hid k1
  have hsz1 := k1.size
  clear s1 k1 HS
  go_wp2_with fail
  ((with_reducible refine hhd.mono ?_); rintro e w2 ⟨rfl, j, rfl⟩)
  have HX := Lib.hid (show Below w1.heap.size w1 (w1.drewN j) from below_drewN' (Below.refl _ _) j)
  have HS2 := Lib.hid (HS1.out.below HX.out)
  have HLOW2 := Lib.hid (HLOW1.out.trans (.of_below HX.out))
  have hsz2 : W.heap.size ≤ (w1.drewN j).heap.size := Nat.le_trans hsz1 HX.out.size
  clear hhd HX HS1 HLOW1 hsz1
  revert HS2 HLOW2 hsz2
  generalize w1.drewN j = w2
  intro HS2 HLOW2 hsz2
  have HLEN := Lib.hid hlen
  clear hlen
  go_wp2_with fail
  go_loopw [4, 5] (fun v j wr => ∃ a r, Hid (s = a ++ r) ∧ j = .int .i64 (topOf r) ∧ Hid (wr.ownsRow W.heap.size 3 1 v a.length (a.map iV)) ∧ Hid (SM p b (n + 1 + a.length) s T wr) ∧ Hid (Only p b W wr) ∧ W.heap.size ≤ wr.heap.size) (fun v _ _ => s.length - lenV v)
  case atStart => exact ⟨[], s, Lib.hid rfl, rfl, Lib.hid (World.ownsRow_nil _ _ _ _), HS2, HLOW2, hsz2⟩
  case round =>
    clear HS2 HLOW2 hsz2
    obtain ⟨a, r, HE, rfl, HO, HS2, HLOW2, hsz2⟩ := hrel
    obtain ⟨A, c, rfl, hnc, hcm, _⟩ := own_slice HO.out
    cases r with
    | nil =>
      have HE2 := HE.out
      rw [List.append_nil] at HE2
      rw [show topOf ([] : List Int) = -1 from rfl]
      have HEE := Lib.hid HE2
      clear HE HE2
      go_wp2_with fail
      go_ret2
      have e := HEE.out
      subst e
      exact ⟨_, rfl, HO.out, HS2.out.mono (by have := HLEN.out; omega), HLOW2.out⟩
    | cons x r =>
      rw [show topOf (x :: r) = x from rfl]
      have hxx : 0 ≤ x ∧ x < 256 := by
        have h := HS2.out
        rw [HE.out] at h
        exact h.mid
      obtain ⟨hx0, hx1⟩ := hxx
      have hal : a.length < 60 := by
        have h1 := HLEN.out
        rw [HE.out, List.length_append, List.length_cons] at h1
        omega
      have HO2 := Lib.hid (HO.out.alloc (.cells #[.int .i64 x] 3))
      have HA := Lib.hid (show Below wr.heap.size wr (wr.alloc (.cells #[.int .i64 x] 3)) from (Below.refl _ _).alloc (Nat.le_refl _) _)
      have HC2 := Lib.hid (cells_new wr [.int .i64 x] 3)
      go_wp2_with (at_builtin; go_loud (refine wpList_append_own _ rfl (.tmp 20) (.tmp 22) _ rfl W.heap.size 3 i0 _ 1 8 Tryd.underlying71 hi0 hz0 hz1 hz2 rfl (by decide) (.slice A a.length c) a.length (a.map iV) rfl HO2.out ⟨wr.heap.size, 0, none⟩ 1 1 [.int .i64 x] rfl rfl HC2.out (fun u hu => by rw [List.mem_singleton.1 hu]; rfl) (by unfold maxLen; omega) (by omega) (by have := HA.out.size; omega) ?_; intro v' w4 hown' hgrow _; obtain ⟨A', c2, rfl, _, _, _⟩ := own_slice hown'; have HO4 := Lib.hid hown'; have HG := Lib.hid hgrow; have HS4 := Lib.hid ((HS2.out.below HA.out).grown (by omega) HO2.out (by decide) hgrow); have HLOW4 := Lib.hid ((HLOW2.out.trans (.of_below HA.out)).row hgrow (fun k hk => (HO2.out.lt k hk).1)); have hsz4 := HLOW4.out.size; clear hown' hgrow))
      have HS5 := HS4.out
      rw [HE.out] at HS5
      have HS5 := Lib.hid HS5
      clear HO HO2 HA HC2 HS2 HLOW2
      ((with_reducible refine (sm_link HS5.out (by omega)).mono ?_); rintro e w5 ⟨v, rfl, hvu, hvt, s6, k6⟩)
      have hhd := asHead_any v w5 s6.lay hvu
      rw [hvt] at hhd
      have HR6 := Lib.hid (HS5.out.rowO HO4.out (by decide) k6)
      have HS6 := Lib.hid s6
      have HLOW6 := Lib.hid (HLOW4.out.trans k6)
      have hsz6 : W.heap.size ≤ w5.heap.size := Nat.le_trans (by have := HG.out.size; simp at this; omega) k6.size
      clear s6 k6 hvu hvt HS5 HS4 HLOW4 HO4
      go_wp2_with fail
      ((with_reducible refine hhd.mono ?_); rintro e w7 ⟨rfl, j, rfl⟩)
      have HX := Lib.hid (show Below w5.heap.size w5 (w5.drewN j) from below_drewN' (Below.refl _ _) j)
      have HS7 := HS6.out.below HX.out
      rw [← HE.out] at HS7
      have HS7 := Lib.hid HS7
      have HLOW7 := Lib.hid (HLOW6.out.trans (.of_below HX.out))
      have HR7 := Lib.hid (own_low HR6.out HX.out)
      have hsz7 : W.heap.size ≤ (w5.drewN j).heap.size := Nat.le_trans hsz6 HX.out.size
      go_wp2_with fail
      go_roundw
      case rel => exact ⟨a ++ [x], r, Lib.hid (by rw [HE.out]; simp), rfl, Lib.hid (by rw [List.length_append, List.map_append]; exact HR7.out), Lib.hid (HS7.out.mono (by rw [List.length_append]; simp; omega)), HLOW7, hsz7⟩
      case measure =>
        have hsl : a.length < s.length := by rw [HE.out, List.length_append, List.length_cons]; omega
        simp only [lenV]
        omega
end Go.Proofs.YtipgidkpjilhoaaDoor
