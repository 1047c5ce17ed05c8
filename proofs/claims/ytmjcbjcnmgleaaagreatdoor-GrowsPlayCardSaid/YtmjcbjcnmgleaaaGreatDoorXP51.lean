/-
  The slots of the list, in order; Nobody else about; The examples of the law, in plain words; conditions as each theorem says.
-/
import Derived.Test.YtmjcbjcnmgleaaaGreatDoorXP47
import Derived.Test.YtmjcbjcnmgleaaaGreatDoorXP33
import Derived.Test.YtmjcbjcnmgleaaaGreatDoorXP50
namespace Go.Proofs.YtmjcbjcnmgleaaaGreatDoor
open Go.RowKit Go.Maps
section
variable {p b q c c' : Nat} {M : MV} {S : List Int} {T : Int} {w w' wr W : World}
structure LmA (p b : Nat) (M : MV) (w : World) (c : Nat) (wr : World) : Prop where
  mem : ∃ M', M'.V = M.V ∧ M'.s.st ≤ M.s.st + (c : Int) ∧ VX p b M' wr
  onl : Onl p b [] w wr
theorem LmA.start (F : VX p b M w) : LmA p b M w 0 w := ⟨⟨M, rfl, by omega, F⟩, .refl _⟩
theorem LmA.below (h : LmA p b M w c wr) (hb : Below wr.heap.size wr w') : LmA p b M w c w' := by
  obtain ⟨⟨M', h1, h2, F⟩, ho⟩ := h
  exact ⟨⟨M', h1, h2, F.below hb⟩, ho.trans (.of_below hb)⟩
theorem LmA.mono (h : LmA p b M w c wr) (hc : c ≤ c') : LmA p b M w c' wr := by
  obtain ⟨⟨M', h1, h2, F⟩, ho⟩ := h
  exact ⟨⟨M', h1, by omega, F⟩, ho⟩
theorem LmA.lay (h : LmA p b M w c wr) : Lay wr := by obtain ⟨⟨M', h1, h2, F⟩, ho⟩ := h; exact F.lay
theorem LmA.load (h : LmA p b M w c wr) (hs : M.s.st + (c : Int) < 1000000) (x : Ad) :
    Calls Tryz.prog 60 #[.pointer (some ⟨p, 0, none⟩), .agg #[.int .u8 x.k, .int .i64 x.a, .int .i64 x.f]] wr fun e w' => e = .returned (.int .u64 (M.V x)) ∧ LmA p b M w (c + 1) w' ∧ Only p b wr w' := by
  obtain ⟨⟨M', h1, h2, F⟩, ho⟩ := h
  refine (F.load (by omega) x).mono ?_
  rintro e w' ⟨rfl, F', k⟩
  refine ⟨by rw [h1], ⟨⟨ldM M' x, h1, ?_, F'⟩, ho.trans (.of_only k)⟩, k⟩
  show M'.s.st + 1 ≤ _
  push_cast
  omega
theorem LmA.u64 (h : LmA p b M w c wr) (x : Ad) : U64 (M.V x) := by
  obtain ⟨⟨M', h1, h2, F⟩, ho⟩ := h
  rw [← h1]
  exact F.u64 x
theorem LmA.ne (h : LmA p b M w c wr) {t : TypeId} {cs : Array Value} {g : Nat} (ht : t ≠ 121) (k : wr.heap[g]? = some (.cells cs t (0, 0))) : g ≠ p ∧ g ≠ b := by
  obtain ⟨⟨M', h1, h2, F⟩, ho⟩ := h
  exact F.ne (cs := cs.toList) ht (by unfold Bq; simpa using k)
theorem own_only {base : Nat} {e : TypeId} {size : Nat} {v : Value} {m : Nat} {xs : List Value} (h : LmA p b M w c wr) (ho : wr.ownsRow base e size v m xs) (he : e ≠ 121) (hk : Only p b wr w') : w'.ownsRow base e size v m xs := by
  rcases ho.2 with h2 | ⟨g, cap, cur, hv, hg, hh, r⟩
  · exact ⟨ho.1, .inl h2⟩
  · obtain ⟨n1, n2⟩ := h.ne he hh
    exact ⟨ho.1, .inr ⟨g, cap, cur, hv, hg, (hk.block g (Array.getElem?_eq_some_iff.1 hh).1 n1 n2).trans hh, r⟩⟩
theorem LmA.grown (h : LmA p b M w c wr) {e : TypeId} {size : Nat} {v : Value} {m : Nat} {xs : List Value} (ho : wr.ownsRow w.heap.size e size v m xs) (he : e ≠ 121) (hg : wr.grownBy w' v.ownBlock) (h1 : 1 < w.heap.size) : LmA p b M w c w' := by
  have hne : ∀ g, v.ownBlock = some g → (g ≠ p ∧ g ≠ b) ∧ w.heap.size ≤ g := by
    intro g hgv
    rcases ho.2 with ⟨rfl, _⟩ | ⟨g', cap, cur, rfl, hb', hh, _⟩
    · simp [Value.ownBlock] at hgv
    · simp [Value.ownBlock] at hgv
      subst hgv
      exact ⟨h.ne he hh, hb'⟩
  obtain ⟨⟨M', a1, a2, F⟩, hon⟩ := h
  have key : ∀ k, k < wr.heap.size → (∀ g, v.ownBlock = some g → g ≠ k) → w'.heap[k]? = wr.heap[k]? := fun k hk hx => hg.block k hk (fun e => hx k e.symm rfl)
  have hlt := F.lt
  refine ⟨⟨M', a1, a2, F.keep hg.size (key p hlt.1 fun g e => (hne g e).1.1) (key b hlt.2 fun g e => (hne g e).1.2) (key _ F.lay.1 fun g e => by have := (hne g e).2; omega) (key _ F.laym.1 fun g e => by have := (hne g e).2; omega)⟩, ⟨hg.os.trans hon.os, hg.tape.trans hon.tape, hg.output.trans hon.output, Nat.le_trans hon.size hg.size, fun k hk h2 h3 h4 => (key k (Nat.lt_of_lt_of_le hk hon.size) fun g e => by have := (hne g e).2; omega).trans (hon.block k hk h2 h3 h4)⟩⟩
theorem ch_mid {lk : Int → Int} {x : Int} {r : List Int} : ∀ {a : List Int}, Ch lk (a ++ x :: r) → 0 ≤ x ∧ x < 256 ∧ wSlot (lk x) = topOf r
  | [], h => h.1
  | _ :: _, h => ch_mid h.2
end
def lenV : Value → Nat
  | .slice _ n _ => n
  | _ => 0
theorem info_intL : (Tryz.prog.info? 3).map (fun i => (i.zero, i.size, i.bytes)) = some (some (.int .i64 0), 1, 8) := by kernel_rfl
theorem cells_newL (w : World) (xs : List Value) (t : TypeId) : ∀ j u, xs[j]? = some u → (w.alloc (.cells xs.toArray t)).cell? ((⟨w.heap.size, 0, none⟩ : Addr).add j) = some u := by
  intro j u hj
  by_cases h : j = 0
  · subst h
    simp [Addr.add, hj]
  · simp [Addr.add, h, hj]
def ListedP (p b : Nat) (M : MV) (S : List Int) (W : World) (e : Ending) (w' : World) : Prop := ∃ v, e = .returned (.tuple #[v, .bool true]) ∧ w'.ownsRow W.heap.size 3 1 v S.length (S.map iV) ∧ LmA p b M W 100 w'
set_option maxRecDepth 100000 in
set_option maxHeartbeats 4000000 in
theorem listed_any (p b : Nat) (M : MV) (S : List Int) (T : Int) (W : World) (F : VX p b M W) (stk : Stk (maV M.V).ms S T) (hs : M.s.st < 900000) (hlen : S.length ≤ 60) : Calls Tryz.prog 26 #[.pointer (some ⟨p, 0, none⟩)] W (ListedP p b M S W) := by
  obtain ⟨i0, hi0, hz0, hz1, hz2⟩ := info_parts info_intL
  have h1W : 1 < W.heap.size := by have := F.lay.1; have := F.laym.1; omega
  have HF := Lib.hid (LmA.start F)
  have htop : wSlot (M.V adF) = topOf S := stk.slotM
  have HST := Lib.hid stk
  have HLEN := Lib.hid hlen
  have hld := HF.out.load (by omega) adF
  rw [show (adF.k = 0) from rfl, show (adF.a = 0) from rfl, show (adF.f = 0) from rfl] at hld
  clear F stk hlen
  go_enter Tryz.func26, Tryz.ntmps26
  go_wp2_with fail
  ((with_reducible refine hld.mono ?_); rintro e w1 ⟨rfl, s1, k1⟩)
  have hhd := asHead_any (M.V adF) w1 s1.lay (s1.u64 adF)
  rw [htop] at hhd
  have HS1 := Lib.hid s1
  have hsz1 := k1.size
  clear s1 k1 HF hld htop
  go_wp2_with fail
  ((with_reducible refine hhd.mono ?_); rintro e w2 ⟨rfl, j, rfl⟩)
  have HX := Lib.hid (show Below w1.heap.size w1 (w1.drewN j) from below_drewN' (Below.refl _ _) j)
  have HS2 := Lib.hid (HS1.out.below HX.out)
  have hsz2 : W.heap.size ≤ (w1.drewN j).heap.size := Nat.le_trans hsz1 HX.out.size
  clear hhd HX HS1 hsz1
  revert HS2 hsz2
  generalize w1.drewN j = w2
  intro HS2 hsz2
  go_wp2_with fail
  go_loopw [4, 5] (fun v j wr => ∃ a r, Hid (S = a ++ r) ∧ j = .int .i64 (topOf r) ∧ Hid (wr.ownsRow W.heap.size 3 1 v a.length (a.map iV)) ∧ Hid (LmA p b M W (1 + a.length) wr) ∧ W.heap.size ≤ wr.heap.size) (fun v _ _ => S.length - lenV v)
  case atStart => exact ⟨[], S, Lib.hid rfl, rfl, Lib.hid (World.ownsRow_nil _ _ _ _), HS2, hsz2⟩
  case round =>
    clear HS2 hsz2
    obtain ⟨a, r, HE, rfl, HO, HS2, hsz2⟩ := hrel
    obtain ⟨A, c, rfl, hnc, hcm, _⟩ := own_slice HO.out
    cases r with
    | nil =>
      have HE2 := HE.out
      rw [List.append_nil] at HE2
      rw [show topOf ([] : List Int) = -1 from rfl]
      have HEE := Lib.hid HE2
      clear HE HE2
      go_wp2_with fail
      go_ret2
      have e := HEE.out
      subst e
      exact ⟨_, rfl, HO.out, HS2.out.mono (by have := HLEN.out; omega)⟩
    | cons x r =>
      rw [show topOf (x :: r) = x from rfl]
      have hxx : 0 ≤ x ∧ x < 256 ∧ wSlot ((maV M.V).ms.lk x) = topOf r := by
        have h := HST.out.ch
        rw [HE.out] at h
        exact ch_mid h
      obtain ⟨hx0, hx1, hx2⟩ := hxx
      rw [ma_lk ⟨hx0, hx1⟩] at hx2
      have HX2 := Lib.hid hx2
      clear hx2
      have hal : a.length < 60 := by
        have h1 := HLEN.out
        rw [HE.out, List.length_append, List.length_cons] at h1
        omega
      have HO2 := Lib.hid (HO.out.alloc (.cells #[.int .i64 x] 3))
      have HA := Lib.hid (show Below wr.heap.size wr (wr.alloc (.cells #[.int .i64 x] 3)) from (Below.refl _ _).alloc (Nat.le_refl _) _)
      have HC2 := Lib.hid (cells_newL wr [.int .i64 x] 3)
      go_wp2_with (at_builtin; go_loud (refine wpList_append_own _ rfl (.tmp 20) (.tmp 22) _ rfl W.heap.size 3 i0 _ 1 8 Tryz.underlying61 hi0 hz0 hz1 hz2 rfl (by decide) (.slice A a.length c) a.length (a.map iV) rfl HO2.out ⟨wr.heap.size, 0, none⟩ 1 1 [.int .i64 x] rfl rfl HC2.out (fun u hu => by rw [List.mem_singleton.1 hu]; rfl) (by unfold maxLen; omega) (by omega) (by have := HA.out.size; omega) ?_; intro v' w4 hown' hgrow _; obtain ⟨A', c2, rfl, _, _, _⟩ := own_slice hown'; have HO4 := Lib.hid hown'; have HG := Lib.hid hgrow; have HS4 := Lib.hid ((HS2.out.below HA.out).grown HO2.out (by decide) HG.out h1W); clear hown' hgrow))
      have hsz4 : W.heap.size ≤ w4.heap.size := HS4.out.onl.size
      clear HO HO2 HA HC2 HS2 HG
      have hld := HS4.out.load (by omega) (adS x)
      rw [(adS_at (slot_i64 ⟨hx0, hx1⟩)).1, (adS_at (slot_i64 ⟨hx0, hx1⟩)).2.1, (adS_at (slot_i64 ⟨hx0, hx1⟩)).2.2] at hld
      ((with_reducible refine hld.mono ?_); rintro e w5 ⟨rfl, s6, k6⟩)
      have hhd := asHead_any (M.V (adS x)) w5 s6.lay (s6.u64 _)
      rw [HX2.out] at hhd
      have HR6 := Lib.hid (own_only HS4.out HO4.out (by decide) k6)
      have HS6 := Lib.hid s6
      have hsz6 : W.heap.size ≤ w5.heap.size := s6.onl.size
      clear s6 k6 HS4 HO4 hld
      go_wp2_with fail
      ((with_reducible refine hhd.mono ?_); rintro e w7 ⟨rfl, j, rfl⟩)
      have HX := Lib.hid (show Below w5.heap.size w5 (w5.drewN j) from below_drewN' (Below.refl _ _) j)
      have HS7 := Lib.hid (HS6.out.below HX.out)
      have HR7 := Lib.hid (own_low HR6.out HX.out)
      have hsz7 : W.heap.size ≤ (w5.drewN j).heap.size := Nat.le_trans hsz6 HX.out.size
      go_wp2_with fail
      go_roundw
      case rel => exact ⟨a ++ [x], r, Lib.hid (by rw [HE.out]; simp), rfl, Lib.hid (by rw [List.length_append, List.map_append]; exact HR7.out), Lib.hid (HS7.out.mono (by rw [List.length_append]; simp; omega)), hsz7⟩
      case measure =>
        have hsl : a.length < S.length := by rw [HE.out, List.length_append, List.length_cons]; omega
        simp only [lenV]
        omega
end Go.Proofs.YtmjcbjcnmgleaaaGreatDoor
namespace Go.Proofs.YtmjcbjcnmgleaaaGreatDoor
open Go.RowKit Go.Maps
section
variable {p b g q r : Nat} {M : MV} {W w w' X Y : World}
set_option maxRecDepth 100000 in
set_option maxHeartbeats 4000000 in
theorem made_J {J : Nat → AX → MV → Prop} {Fin : AX → MV → Prop} (F : VX p b M W) (hJ : J 0 ⟨newAl, 0⟩ M)
    (hst : ∀ i o M, J i o M → AlNum o → (∀ x, U64 (M.V x)) → i < 900 ∧ ((o.o.ln ≠ 0 ∧ M.s.st < 1000000 ∧ J (i + 1) (alX o M).1 (alX o M).2) ∨ (o.o.ln = 0 ∧ Fin o M))) :
    Calls Tryz.prog 24 #[.pointer (some ⟨p, 0, none⟩)] W fun e w' => ∃ o M', e = .returned (.tuple #[refV o, .bool o.o.got]) ∧ Fin o M' ∧ VX p b M' w' ∧ Onl p b [] W w' := by
  have h1W : 1 < W.heap.size := by have := F.lay.1; have := F.laym.1; omega
  have hpw := F.lt
  have HF := Lib.hid F
  have HST := Lib.hid hst
  have HJ := Lib.hid hJ
  have hbA : Below W.heap.size W (W.alloc (.cells #[.int .i64 0, .int .u32 0, .bool false] 85)) := (Below.refl _ _).alloc (Nat.le_refl _) _
  have hkA : Bq W.heap.size 85 [.int .i64 0, .int .u32 0, .bool false] (W.alloc (.cells #[.int .i64 0, .int .u32 0, .bool false] 85)) := Bq.new _ _ _
  have hsA : W.heap.size < (W.alloc (.cells #[.int .i64 0, .int .u32 0, .bool false] 85)).heap.size := hkA.lt
  have HBA := Lib.hid hbA
  have HKA := Lib.hid hkA
  have HSA := Lib.hid hsA
  clear F hst hJ hbA hkA hsA
  go_enter Tryz.func24, Tryz.ntmps24
  go_wp2_with fail
  ((with_reducible refine (newAlloc_any _).mono ?_); rintro e w1 ⟨q, r, rfl, hr, hq, hk, ho, hb⟩)
  have HS := Lib.hid (show ∃ o M', J 0 o M' ∧ Sole W p b W.heap.size q o M' w1 from ⟨_, _, HJ.out, Sole.begin HF.out (Nat.le_refl _) HSA.out HBA.out HKA.out hr hq hk ho hb⟩)
  clear hr hq hk ho hb HBA HKA HSA HF HJ
  generalize W.heap.size = g at HS
  go_wp2_with fail
  go_loopw [5] (fun j wr => ∃ i : Nat, i ≤ 900 ∧ j = .int .i64 (i : Int) ∧ Hid (∃ o M', J i o M' ∧ Sole W p b g q o M' wr)) (fun j _ => 1000 - (intOf j).toNat)
  case atStart => exact ⟨0, Nat.zero_le _, rfl, HS⟩
  case round =>
    clear HS
    obtain ⟨i, hi, rfl, hr0⟩ := hrel
    obtain ⟨o, M', hj, hr1⟩ := hr0.out
    have hr := Lib.hid hr1
    obtain ⟨hi9, hnx⟩ := HST.out i o M' hj hr1.num hr1.mem.u64
    have hge : (0 : Int) ≤ (i : Int) := by omega
    have hlt : (i : Int) < 1000 := by omega
    obtain ⟨r', r1', hrep, _, _⟩ := hr.out.rep
    have HV := Lib.hid hrep
    clear hr0 hr1 hj
    by_cases hin : o.o.ln ≠ 0
    · have hln := fls hin
      have hov2 := alOver HV.out
      rw [hln] at hov2
      have HN := Lib.hid (hnx.resolve_right fun h => hin h.1)
      have hst2 : M'.s.st < 1000000 := HN.out.2.1
      clear hrep hln hnx hin
      go_wp2_with fail
      ((with_reducible refine hov2.mono ?_); rintro e w2 ⟨rfl, rfl⟩)
      go_wp2_with fail
      ((with_reducible refine (hr.out.step h1W hst2).mono ?_); rintro e w3 ⟨rfl, h3⟩)
      have HS3 := Lib.hid (show ∃ o2 M2, J (i + 1) o2 M2 ∧ Sole W p b g q o2 M2 w3 from ⟨_, _, HN.out.2.2, h3⟩)
      clear h3 hov2 hst2 HV HN hr
      generalize ((alX o M').1.o.ln == 0) = bb
      go_wp2_with fail
      go_roundw
      case rel => exact ⟨i + 1, by omega, by go_num, HS3⟩
      case measure => simp [intOf]; omega
    · have hz : o.o.ln = 0 := by omega
      have HFN := Lib.hid ((hnx.resolve_left fun h => hin h.1).2)
      have hov2 := alOver HV.out
      rw [hz] at hov2
      have HR := Lib.hid hr.out
      have hgot := alGot (h := HV.out) hr.out.got
      obtain ⟨s, u, hsu⟩ := ref_parts o
      rw [hsu] at hgot
      have HSU := Lib.hid hsu
      clear hrep hr HV hsu hnx hin hz
      go_wp2_with fail
      ((with_reducible refine hov2.mono ?_); rintro e w2 ⟨rfl, rfl⟩)
      go_wp2_with fail
      ((with_reducible refine hgot.mono ?_); rintro e w3 ⟨rfl, hb3⟩)
      have hres := HR.out.res.below hb3
      have HFX := Lib.hid (HR.out.mem.below hb3)
      have HLO := Lib.hid (HR.out.low.trans (.of_below hb3))
      have hne := HFX.out.ne (by decide) hres
      have HNE := Lib.hid hne
      have HOLD := Lib.hid HR.out.old
      obtain ⟨b0, b1, b2, z0, z1, z2⟩ := Bq.s3 hres
      have HK := Lib.hid (hres.fill3 (d0 := .int .i64 s) (d1 := .int .u32 u) (d2 := .bool false))
      clear hres hb3 hne hov2 hgot
      go_wp2_with fail
      refine bodyPost_ret (results_two Tryz.results24 _ _ _ _ _ _ _ rfl HK.out Tryz.underlying85 rfl (by kernel_rfl)) rfl ⟨o, M', ?_, HFN.out, vx_fill3 HFX.out HNE.out.1 HNE.out.2 (by have := HOLD.out; omega), onl_fill3 HLO.out HOLD.out⟩
      rw [HSU.out]
      rfl
end
end Go.Proofs.YtmjcbjcnmgleaaaGreatDoor
namespace Go.Proofs.YtmjcbjcnmgleaaaGreatDoor
open Go.RowKit Go.Maps
section
variable {N mo g lk : Int} {th : Nat → TA} {S : List Int} {T0 i n : Nat} {p b : Nat} {M : MV} {W w w' X : World}
theorem low_onl (h : Below W.heap.size W w) (hp : W.heap.size ≤ p) (hb : W.heap.size ≤ b) (O : Onl p b [] w X) : Below W.heap.size W X := h.trans (O.below hp hb (by simp) h.size)
theorem seg9_to (F : VX p b M w) (hs : M.s.st < 900000) (h : 0 ≤ g ∧ g < 32) {a c : Int} (ha : (maV M.V).sst g = a) (hc : (maV M.V).spk g = c) : Calls Tryz.prog 28 #[.pointer (some ⟨p, 0, none⟩), .int .i64 g] w fun e w' => e = .returned (.tuple #[.int .u64 a, .int .u64 c]) ∧ ∃ M', M'.V = M.V ∧ M'.s.st = M.s.st + 2 ∧ VX p b M' w' ∧ Onl p b [] w w' := by
  rw [ma_sst h] at ha
  rw [ma_spk h] at hc
  refine (seg9_any F hs h).mono ?_
  rintro e w' ⟨rfl, F', O⟩
  rw [ha, hc]
  exact ⟨rfl, ldM (ldM M (adG g)) (adP g), rfl, by rw [ld_st, ld_st]; omega, F', .of_only O⟩
end
end Go.Proofs.YtmjcbjcnmgleaaaGreatDoor
