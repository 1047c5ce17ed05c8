/-
  The law SnapsStill, walked: it returns true and only makes memory of its own; condition: the table as laid, the threads lie as they say.
-/
import Derived.Test.YtapcgikamldchaaDoorSM3
import Derived.Deep.DeepCutAuto
import Derived.Deep.RegionHeld3
import Derived.BigQuiet
namespace Go.Proofs.YtapcgikamldchaaDoor
open Go.RowKit Go.Maps

def SBS (X c : Nat) (A : Option Addr) (W w : World) : Prop := (w.cell? ⟨X, 0, none⟩ = some (.slice A c c) ∧ w.cell? ⟨X, 1, none⟩ = some (.int .u64 0)) ∧ Hid (Below W.heap.size W w)
theorem SBS.step {X c : Nat} {A : Option Addr} {W w w' : World} (h : SBS X c A W w) (hb : Below w.heap.size w w') : SBS X c A W w' := by
  obtain ⟨⟨h0, h1⟩, h2⟩ := h
  exact ⟨⟨(hb.cell (p := ⟨X, 0, none⟩) (World.block_lt_of_cell? w _ h0)).trans h0, (hb.cell (p := ⟨X, 1, none⟩) (World.block_lt_of_cell? w _ h1)).trans h1⟩, Lib.hid (h2.out.trans (hb.mono h2.out.size))⟩
theorem same_below {W w w' : World} (h : Below W.heap.size W w) (e : w = w') : Below W.heap.size W w' := e ▸ h
theorem same_below' {w w' : World} (e : w = w') : Below w.heap.size w w' := e ▸ Below.refl _ w
/-- What a snapshot has of a thread that was laid. -/
theorem laid_thr {V : Ad → Int} {xs : List TH} {bk : Int} {n i : Nat} (h : LayN (fun _ => 0) V xs bk n 0) (hn : n = xs.length) (hi : i < 16) : thrR (fun _ => V) i = if i < n ∧ (xs.getD i TH.zero).o ≠ 0 then xs.getD i TH.zero else TH.zero := by
  have key : ∀ g : Nat, g < 10 → V (adT (i : Int) (g : Int)) = if i < n then (xs.getD i TH.zero).get g else 0 := fun g hg => by
    rw [h.2 i g hi hg]
    by_cases e : i < n
    · rw [if_pos (.inl e), if_pos e]
    · rw [if_neg (by omega), if_neg e]
  have k0 : V (adT (i : Int) 0) = if i < n then (xs.getD i TH.zero).o else 0 := key 0 (by decide)
  have e0 : thrR (fun _ => V) i = if V (adT (i : Int) 0) = 0 then TH.zero else mkT fun f => V (adT (i : Int) (f : Int)) := rfl
  rw [e0]
  by_cases e : i < n
  · rw [k0, if_pos e]
    by_cases ho : (xs.getD i TH.zero).o = 0
    · rw [if_pos ho, if_neg (fun k => k.2 ho)]
    · rw [if_neg ho, if_pos ⟨e, ho⟩]
      exact TH.ext_get fun f hf => by rw [get_mk _ hf, key f hf, if_pos e]
  · rw [k0, if_neg e, if_pos rfl, if_neg (fun k => e k.1)]
theorem RowV.belowN {w w' : World} {B N : Nat} {A : Option Addr} {V : Ad → Int} {ts : List Ad} (h : RowV w B (.slice A N N) V ts) (hb : Below w.heap.size w w') : RowV w' B (.slice A N N) V ts := h.below hb
set_option maxRecDepth 100000 in
set_option maxHeartbeats 16000000 in
theorem sstill_good (A0 : Option Addr) (n c0 : Nat) (xs : List TH) (bk : Int) (W : World) (hM : LayM W) (hx : SeeH W (.slice A0 n c0) xs) (hok : ∀ t ∈ xs, t.ok) (hn : n ≤ 16) (hbk : 0 ≤ bk ∧ bk < 256) :
    Calls Tryd.prog 5 #[.slice A0 n c0, .int .u8 bk] W fun e W' => e = .returned (.bool true) ∧ Below W.heap.size W W' := by
  have hW0 : 0 < W.heap.size := hM.1
  have HM := Lib.hid hM
  have HX := Lib.hid hx
  have HN := Lib.hid hx.len
  have HOK := Lib.hid hok
  have q1 : ¬ ((16 : Int) < (n : Int)) := by omega
  have q2 : (n : Int) ≤ 16 := by omega
  have hwb : IntKind.i64.wrap bk = bk := by simp [IntKind.wrap, IntKind.bits, IntKind.signed]; omega
  obtain ⟨hbk0, hbk9⟩ := hbk
  clear hM hx hok
  go_enter Tryd.func5, Tryd.ntmps5
  go_wp2_with fail
  ((with_reducible refine (new_vx HM.out).mono ?_); rintro e w1 ⟨p, b, M0, rfl, f1, v1, s1, b1, hb1, hp1⟩)
  have HF1 := Lib.hid f1
  have HB1 := Lib.hid b1
  have HV1 := Lib.hid v1
  have HS1 := Lib.hid s1
  have hpb : W.heap.size ≤ p ∧ W.heap.size ≤ b := ⟨by omega, hb1⟩
  have hs1 : M0.s.st < 900000 := by rw [s1]; decide
  clear f1 b1 v1 s1 hb1 hp1
  go_wp2_with fail
  ((with_reducible refine (lay_all HF1.out hs1 HB1.out hpb HX.out HOK.out hn ⟨hbk0, hbk9⟩).mono ?_); rintro e w2 ⟨rfl, M, f2, l2, s2, o2⟩)
  rw [HV1.out] at l2
  rw [HS1.out] at s2
  have HF2 := Lib.hid f2
  have HL := Lib.hid l2
  have HS2 := Lib.hid s2
  have HO2 := Lib.hid (onl_fresh (p := p) (b := b) (E := []) (Onl.of_below HB1.out) o2 (by simp))
  have hst2 : M.s.st ≤ 161 := by omega
  have hst0 : 0 ≤ M.s.st := by omega
  clear f2 l2 s2 o2 HF1 HB1 HV1 HS1 HS2 hs1
  obtain ⟨st, hst⟩ : ∃ st, M.s.st = st := ⟨_, rfl⟩
  have HST := Lib.hid hst
  rw [hst] at hst2 hst0
  go_wp2_with fail
  ((with_reducible refine (HF2.out.steps).mono ?_); rintro e w3 ⟨rfl, rfl⟩)
  rw [hst]
  have hms : M.s.st ≤ 1000000 := by omega
  have hms2 : M.s.st < 900000 := by omega
  clear hst
  go_wp2_with fail
  ((with_reducible refine (HF2.out.words hms).mono ?_); rintro e w4 ⟨ts, Aw, rfl, hw4, hr4, hb4, _⟩)
  have HW4 := Lib.hid hw4
  have HR4 := Lib.hid hr4
  have HF4 := Lib.hid (HF2.out.below hb4)
  have HO4 := Lib.hid (HO2.out.trans (.of_below hb4))
  have hw40 : 0 < w4.heap.size := by have := HO4.out.size; omega
  clear hw4 hr4 hb4 HF2 HO2
  go_wp2_with fail
  ((with_reducible refine (taken_all HF4.out hms2 hw40).mono ?_); rintro e w5 ⟨A, c, M', hc, rfl, ho, f5, v5, s5, o5⟩)
  rw [HL.out.1] at hc
  rw [HST.out] at s5
  have HV5 := Lib.hid v5
  have HO5 := Lib.hid (HO4.out.trans o5)
  obtain ⟨L, hL⟩ : ∃ L, L = lstR (fun _ => M.V) c := ⟨_, rfl⟩
  have HLL := Lib.hid hL
  rw [← hL] at ho s5
  have hc16 : c ≤ 16 := by omega
  have hcl : L.length = c := by rw [hL, lst_len]
  have HCL := Lib.hid hcl
  have hcost := cost_le L
  have HB5 : Below w5.heap.size w5 (w5.alloc (.cells #[.slice A c c, .int .u64 0] 36)) := (Below.refl _ _).alloc (Nat.le_refl _) _
  have HF6 := Lib.hid (f5.below HB5)
  have HR6 := Lib.hid (ho.below HB5)
  have HO6 := Lib.hid (HO5.out.trans (.of_below HB5))
  have HX6 := Lib.hid (Bq.new w5 [.slice A c c, .int .u64 0] 36)
  have HRW6 := Lib.hid ((HR4.out.onl HF4.out o5).below HB5)
  have HRL := Lib.hid (show 200 < 201 by decide)
  obtain ⟨co, hco⟩ : ∃ co : Nat, co = costL L := ⟨_, rfl⟩
  have HCO := Lib.hid hco
  rw [← hco] at s5 hcost
  have hms9 : M'.s.st ≤ 1000000 := by omega
  have HS5 := Lib.hid s5
  clear ho f5 v5 s5 o5 hL hcl hco HB5 HO5 HF4 HO4 HR4
  go_upto_region 8 with (fail)
  revert HF6 HR6 HO6 HX6 HRW6
  generalize w5.alloc (.cells #[.slice A c c, .int .u64 0] 36) = w6
  intro HF6 HR6 HO6 HX6 HRW6
  generalize w5.heap.size = X at *
  go_cut [10] (fun x wx => x = .int .i64 (c : Int) ∧ wx = w6)
  case first =>
    have HCC := Lib.hid hc
    clear hc
    go_wp2_with fail
    all_goals go_meet
    all_goals exact ⟨by rw [HCC.out], rfl⟩
  case rest =>
    obtain ⟨rfl, rfl⟩ := hcut
    rename World => w6
    clear hc
    obtain ⟨nb, hnb⟩ : ∃ nb : Int, ((1 + costL L : Nat) : Int) = nb := ⟨_, rfl⟩
    obtain ⟨sv, hsv⟩ : ∃ sv, M'.s.st = sv := ⟨_, rfl⟩
    have hsum : IntKind.i64.wrap (st + nb) = sv := by
      have h1 := HS5.out
      have h2 := HCO.out
      have h3 := HCL.out
      rw [← hsv, h1, ← hnb, ← h2]
      simp [IntKind.wrap, IntKind.bits, IntKind.signed]
      omega
    have HNB := Lib.hid hnb
    have HSV := Lib.hid hsv
    clear hnb hsv HS5 HCO
    have hBW := HO6.out.below hpb.1 hpb.2 (by simp) (Nat.le_refl _)
    have HBW := Lib.hid hBW
    clear hBW
    have hge0 : (0 : Int) ≤ (c : Int) := by omega
    have hcn : c < 1000 := by omega
    go_upto_region 9 with (fail)
    go_cut [55] (fun x wx => x = .bool false ∧ Hid (Below w6.heap.size w6 wx))
    case first =>
      have hd0 : Below w6.heap.size w6 w6.drew := (Below.refl _ _).drew
      have H0 := Lib.hid hd0
      have HY0 := Lib.hid (show SBS X c A W w6.drew from ⟨⟨(HX6.out.below hd0).cell 0, (HX6.out.below hd0).cell 1⟩, Lib.hid (HBW.out.trans (hd0.mono HBW.out.size))⟩)
      clear hd0
      go_region_held3 (fun w1 => (w1.cell? ⟨X, 0, none⟩ = some (.slice A c c) ∧ w1.cell? ⟨X, 1, none⟩ = some (.int .u64 0)) ∧ Hid (Below W.heap.size W w1))
        (first | exact HY0.out | exact HYa.out | exact HYb.out | assumption)
        (first
          | (go_at_call 19; with_reducible refine ((HF6.out.below H0.out).steps).mono ?_; rintro e wa ⟨rfl, hwa⟩; rw [HSV.out]; have Ha := Lib.hid (same_below H0.out hwa); have HYa := Lib.hid (HY0.out.step (same_below' hwa)); clear hwa)
          | (go_at_call 18; with_reducible refine (stepsT_all (ep := 0) (HR6.out.below Ha.out).see hcn).mono ?_; rintro e wb ⟨rfl, hb⟩; rw [HNB.out]; have Hb := Lib.hid (Ha.out.trans (hb.mono Ha.out.size)); have HYb := Lib.hid (HYa.out.step hb); clear hb))
      all_goals (go_wp2_with fail)
      all_goals go_meet
      all_goals exact ⟨rfl, Hb⟩
    case rest =>
      obtain ⟨rfl, H7⟩ := hcut
      rename World => w7
      clear HNB HSV hsum
      have HX7 := Lib.hid (HX6.out.below H7.out)
      have HR7 := Lib.hid (HR6.out.below H7.out)
      have HF7 := Lib.hid (HF6.out.below H7.out)
      have HRW7 := Lib.hid (HRW6.out.below H7.out)
      have HB7 := Lib.hid (HBW.out.trans (H7.out.mono HBW.out.size))
      clear HX6 HR6 HF6 HRW6 HBW H7 HO6
      go_wp2_with fail
      go_loopw [11] (fun j wr => ∃ i : Nat, i ≤ c ∧ j = .int .i64 (i : Int) ∧ Hid (Below w7.heap.size w7 wr)) (fun j _ => c - (intOf j).toNat)
      case atStart => exact ⟨0, Nat.zero_le _, rfl, Lib.hid (Below.refl _ _)⟩
      case round =>
        obtain ⟨i, hi, rfl, HH⟩ := hrel
        rename World => wr
        have hi0 : (0 : Int) ≤ (i : Int) := by omega
        by_cases hic : i < c
        · have hic' : (i : Int) < (c : Int) := by omega
          have hil : i < L.length := by have := HCL.out; omega
          have hthr := laid_thr (i := i) HL.out HN.out (by omega)
          have hLi : L.getD i TH.zero = thrR (fun _ => M.V) i := by rw [HLL.out]; exact lst_at hic
          rw [← hLi] at hthr
          obtain ⟨u, hu⟩ : ∃ u, L.getD i TH.zero = u := ⟨_, rfl⟩
          obtain ⟨t, ht⟩ : ∃ t, xs.getD i TH.zero = t := ⟨_, rfl⟩
          rw [hu, ht] at hthr
          have HTH := Lib.hid hthr
          have hX := (HX7.out.below HH.out).cell 0
          dsimp only [List.getElem?_cons_zero] at hX
          obtain ⟨A8, C8, he8, h81, h82, hA8⟩ := HR7.out.slice
          injection he8 with he81 he82 he83
          subst he81 he83
          obtain ⟨g, rfl⟩ := hA8 (by omega)
          have HRi := Lib.hid (HR7.out.below HH.out)
          obtain ⟨y0, y1, y2, y3, y4, y5, y6, y7, y8, y9⟩ := HRi.out.see.ten hil
          rw [hu] at y0 y1 y2 y3 y4 y5 y6 y7 y8 y9
          simp only [Nat.zero_add] at y0 y1 y2 y3 y4 y5 y6 y7 y8 y9
          have HBi := Lib.hid (HB7.out.trans (HH.out.mono HB7.out.size))
          have HXi := Lib.hid (HX.out.below HBi.out)
          have hb8 : Below wr.heap.size wr (wr.alloc (.cells #[.int .u64 0, .int .u64 0, .int .u64 0, .int .u64 0, .int .u64 0, .int .u64 0, .int .u64 0, .int .u64 0, .int .u64 0, .int .u64 0] 52)) := (Below.refl _ _).alloc (Nat.le_refl _) _
          have HXz := Lib.hid (HX.out.below (HBi.out.trans (hb8.mono HBi.out.size)))
          clear hLi hthr he82 h81 h82 hA8 hb8
          by_cases hin : i < n
          · have hin' : (i : Int) < (n : Int) := by omega
            obtain ⟨hcc0, hcc1, g0, off0, rfl⟩ := HX.out.addr (by omega)
            obtain ⟨z0, z1, z2, z3, z4, z5, z6, z7, z8, z9⟩ := HXz.out.ten (j := i) (by have := HN.out; omega)
            rw [ht] at z0 z1 z2 z3 z4 z5 z6 z7 z8 z9
            by_cases hto : t.o = 0
            · have hu0 : u = TH.zero := by rw [HTH.out, if_neg (fun k => k.2 hto)]
              subst hu0
              have e0 := neq_any TH.zero TH.zero
              rw [decide_eq_true rfl] at e0
              simp only [TH.get, TH.zero] at e0 y0 y1 y2 y3 y4 y5 y6 y7 y8 y9
              rw [TH.get_o, hto] at z0
              go_upto_region 17 with (fail)
              have hb8 : Below wr.heap.size wr (wr.alloc (.cells #[.int .u64 0, .int .u64 0, .int .u64 0, .int .u64 0, .int .u64 0, .int .u64 0, .int .u64 0, .int .u64 0, .int .u64 0, .int .u64 0] 52)) := (Below.refl _ _).alloc (Nat.le_refl _) _
              have k8 := Bq.new wr [.int .u64 0, .int .u64 0, .int .u64 0, .int .u64 0, .int .u64 0, .int .u64 0, .int .u64 0, .int .u64 0, .int .u64 0, .int .u64 0] 52
              have v0 := k8.cell 0
              have v1 := k8.cell 1
              have v2 := k8.cell 2
              have v3 := k8.cell 3
              have v4 := k8.cell 4
              have v5 := k8.cell 5
              have v6 := k8.cell 6
              have v7 := k8.cell 7
              have v8 := k8.cell 8
              have v9 := k8.cell 9
              simp only [List.getElem?_cons_zero, List.getElem?_cons_succ] at v0 v1 v2 v3 v4 v5 v6 v7 v8 v9
              have HH8 := Lib.hid (HH.out.trans (hb8.mono HH.out.size))
              have hX8 := (HX7.out.below HH8.out).cell 0
              dsimp only [List.getElem?_cons_zero] at hX8
              have HR8 := Lib.hid (HR7.out.below HH8.out)
              obtain ⟨m0, m1, m2, m3, m4, m5, m6, m7, m8, m9⟩ := HR8.out.see.ten hil
              rw [hu] at m0 m1 m2 m3 m4 m5 m6 m7 m8 m9
              simp only [Nat.zero_add, TH.get, TH.zero] at m0 m1 m2 m3 m4 m5 m6 m7 m8 m9
              clear y0 y1 y2 y3 y4 y5 y6 y7 y8 y9 hX hb8 k8 HBi HXi HXz HRi HH HR8
              revert v0 v1 v2 v3 v4 v5 v6 v7 v8 v9 HH8 hX8 m0 m1 m2 m3 m4 m5 m6 m7 m8 m9
              generalize wr.alloc (.cells #[.int .u64 0, .int .u64 0, .int .u64 0, .int .u64 0, .int .u64 0, .int .u64 0, .int .u64 0, .int .u64 0, .int .u64 0, .int .u64 0] 52) = w8
              intro v0 v1 v2 v3 v4 v5 v6 v7 v8 v9 HH8 hX8 m0 m1 m2 m3 m4 m5 m6 m7 m8 m9
              generalize wr.heap.size = Y8 at *
              go_quiet (fail)
              have hbn := Lib.hid (HH8.out.trans ((below_drewN' (Below.refl _ w8) nq).mono HH8.out.size))
              clear e0 v0 v1 v2 v3 v4 v5 v6 v7 v8 v9 m0 m1 m2 m3 m4 m5 m6 m7 m8 m9 hX8 HH8
              go_wp2_with fail
              go_roundw
              case rel => exact ⟨i + 1, by omega, by go_num, hbn⟩
              case measure => simp [intOf]; omega
            · have hu0 : u = t := by rw [HTH.out, if_pos ⟨hin, hto⟩]
              subst hu0
              have e0 := neq_any u u
              rw [decide_eq_true rfl] at e0
              have hto' : ¬ u.get 0 = 0 := hto
              go_upto_region 17 with (fail)
              clear z0 z1 z2 z3 z4 z5 z6 z7 z8 z9 hto'
              have hb8 : Below wr.heap.size wr (wr.alloc (.cells #[.int .u64 (u.get 0), .int .u64 (u.get 1), .int .u64 (u.get 2), .int .u64 (u.get 3), .int .u64 (u.get 4), .int .u64 (u.get 5), .int .u64 (u.get 6), .int .u64 (u.get 7), .int .u64 (u.get 8), .int .u64 (u.get 9)] 52)) := (Below.refl _ _).alloc (Nat.le_refl _) _
              have k8 := Bq.new wr [.int .u64 (u.get 0), .int .u64 (u.get 1), .int .u64 (u.get 2), .int .u64 (u.get 3), .int .u64 (u.get 4), .int .u64 (u.get 5), .int .u64 (u.get 6), .int .u64 (u.get 7), .int .u64 (u.get 8), .int .u64 (u.get 9)] 52
              have v0 := k8.cell 0
              have v1 := k8.cell 1
              have v2 := k8.cell 2
              have v3 := k8.cell 3
              have v4 := k8.cell 4
              have v5 := k8.cell 5
              have v6 := k8.cell 6
              have v7 := k8.cell 7
              have v8 := k8.cell 8
              have v9 := k8.cell 9
              simp only [List.getElem?_cons_zero, List.getElem?_cons_succ] at v0 v1 v2 v3 v4 v5 v6 v7 v8 v9
              have HH8 := Lib.hid (HH.out.trans (hb8.mono HH.out.size))
              have hX8 := (HX7.out.below HH8.out).cell 0
              dsimp only [List.getElem?_cons_zero] at hX8
              have HR8 := Lib.hid (HR7.out.below HH8.out)
              obtain ⟨m0, m1, m2, m3, m4, m5, m6, m7, m8, m9⟩ := HR8.out.see.ten hil
              rw [hu] at m0 m1 m2 m3 m4 m5 m6 m7 m8 m9
              simp only [Nat.zero_add] at m0 m1 m2 m3 m4 m5 m6 m7 m8 m9
              clear y0 y1 y2 y3 y4 y5 y6 y7 y8 y9 hX hb8 k8 HBi HXi HXz HRi HH HR8
              revert v0 v1 v2 v3 v4 v5 v6 v7 v8 v9 HH8 hX8 m0 m1 m2 m3 m4 m5 m6 m7 m8 m9
              generalize wr.alloc (.cells #[.int .u64 (u.get 0), .int .u64 (u.get 1), .int .u64 (u.get 2), .int .u64 (u.get 3), .int .u64 (u.get 4), .int .u64 (u.get 5), .int .u64 (u.get 6), .int .u64 (u.get 7), .int .u64 (u.get 8), .int .u64 (u.get 9)] 52) = w8
              intro v0 v1 v2 v3 v4 v5 v6 v7 v8 v9 HH8 hX8 m0 m1 m2 m3 m4 m5 m6 m7 m8 m9
              generalize wr.heap.size = Y8 at *
              go_quiet (fail)
              have hbn := Lib.hid (HH8.out.trans ((below_drewN' (Below.refl _ w8) nq).mono HH8.out.size))
              clear e0 v0 v1 v2 v3 v4 v5 v6 v7 v8 v9 m0 m1 m2 m3 m4 m5 m6 m7 m8 m9 hX8 HH8
              go_wp2_with fail
              go_roundw
              case rel => exact ⟨i + 1, by omega, by go_num, hbn⟩
              case measure => simp [intOf]; omega
          · have hnn : ¬ (i : Int) < (n : Int) := by omega
            have hu0 : u = TH.zero := by rw [HTH.out, if_neg (fun k => hin k.1)]
            subst hu0
            have e0 := neq_any TH.zero TH.zero
            rw [decide_eq_true rfl] at e0
            simp only [TH.get, TH.zero] at e0 y0 y1 y2 y3 y4 y5 y6 y7 y8 y9
            go_upto_region 17 with (fail)
            have hb8 : Below wr.heap.size wr (wr.alloc (.cells #[.int .u64 0, .int .u64 0, .int .u64 0, .int .u64 0, .int .u64 0, .int .u64 0, .int .u64 0, .int .u64 0, .int .u64 0, .int .u64 0] 52)) := (Below.refl _ _).alloc (Nat.le_refl _) _
            have k8 := Bq.new wr [.int .u64 0, .int .u64 0, .int .u64 0, .int .u64 0, .int .u64 0, .int .u64 0, .int .u64 0, .int .u64 0, .int .u64 0, .int .u64 0] 52
            have v0 := k8.cell 0
            have v1 := k8.cell 1
            have v2 := k8.cell 2
            have v3 := k8.cell 3
            have v4 := k8.cell 4
            have v5 := k8.cell 5
            have v6 := k8.cell 6
            have v7 := k8.cell 7
            have v8 := k8.cell 8
            have v9 := k8.cell 9
            simp only [List.getElem?_cons_zero, List.getElem?_cons_succ] at v0 v1 v2 v3 v4 v5 v6 v7 v8 v9
            have HH8 := Lib.hid (HH.out.trans (hb8.mono HH.out.size))
            have hX8 := (HX7.out.below HH8.out).cell 0
            dsimp only [List.getElem?_cons_zero] at hX8
            have HR8 := Lib.hid (HR7.out.below HH8.out)
            obtain ⟨m0, m1, m2, m3, m4, m5, m6, m7, m8, m9⟩ := HR8.out.see.ten hil
            rw [hu] at m0 m1 m2 m3 m4 m5 m6 m7 m8 m9
            simp only [Nat.zero_add, TH.get, TH.zero] at m0 m1 m2 m3 m4 m5 m6 m7 m8 m9
            clear y0 y1 y2 y3 y4 y5 y6 y7 y8 y9 hX hb8 k8 HBi HXi HXz HRi HH HR8
            revert v0 v1 v2 v3 v4 v5 v6 v7 v8 v9 HH8 hX8 m0 m1 m2 m3 m4 m5 m6 m7 m8 m9
            generalize wr.alloc (.cells #[.int .u64 0, .int .u64 0, .int .u64 0, .int .u64 0, .int .u64 0, .int .u64 0, .int .u64 0, .int .u64 0, .int .u64 0, .int .u64 0] 52) = w8
            intro v0 v1 v2 v3 v4 v5 v6 v7 v8 v9 HH8 hX8 m0 m1 m2 m3 m4 m5 m6 m7 m8 m9
            generalize wr.heap.size = Y8 at *
            go_quiet (fail)
            have hbn := Lib.hid (HH8.out.trans ((below_drewN' (Below.refl _ w8) nq).mono HH8.out.size))
            clear e0 v0 v1 v2 v3 v4 v5 v6 v7 v8 v9 m0 m1 m2 m3 m4 m5 m6 m7 m8 m9 hX8 HH8
            go_wp2_with fail
            go_roundw
            case rel => exact ⟨i + 1, by omega, by go_num, hbn⟩
            case measure => simp [intOf]; omega
        · have hnl : ¬ (i : Int) < (c : Int) := by omega
          have HF8 := Lib.hid (HF7.out.below HH.out)
          have HRW8 := Lib.hid (HRW7.out.below HH.out)
          have HB8 := Lib.hid (HB7.out.trans (HH.out.mono HB7.out.size))
          have HM8 := Lib.hid HF8.out.laym
          clear HX7 HR7 HF7 HRW7 HB7 HH
          go_wp2_with fail
          ((with_reducible refine (HF8.out.words hms9).mono ?_); rintro e w9 ⟨ts9, A9, rfl, hw9, hr9, hb9, hN9⟩)
          rw [HV5.out] at hw9 hr9
          obtain rfl : ts9 = ts := hw9.one HW4.out
          have HRA := Lib.hid hr9
          have HRB := Lib.hid (HRW8.out.below hb9)
          have HB9 := Lib.hid (HB8.out.trans (hb9.mono HB8.out.size))
          have HM9 := Lib.hid (HM8.out.below hb9)
          clear hw9 hr9 hb9 HF8 HRW8 HB8 HM8 HW4
          obtain ⟨N, hN⟩ : ∃ N, ts9.length = N := ⟨_, rfl⟩
          have HNN := Lib.hid hN
          rw [hN] at HRA HRB hN9 ⊢
          clear hN
          go_wp2_with fail
          go_loopw [14] (fun j w2 => ∃ i2 : Nat, i2 ≤ N ∧ j = .int .i64 (i2 : Int) ∧ Hid (Below w9.heap.size w9 w2)) (fun j _ => N - (intOf j).toNat)
          case atStart => exact ⟨0, Nat.zero_le _, rfl, Lib.hid (Below.refl _ _)⟩
          case round =>
            obtain ⟨i2, hi2, rfl, HK⟩ := hrel
            rename World => w2
            have hi20 : (0 : Int) ≤ (i2 : Int) := by omega
            by_cases hj : i2 < N
            · have hj' : (i2 : Int) < (N : Int) := by omega
              have hra := HRA.out.below HK.out
              have hrb := HRB.out.below HK.out
              rw [← HNN.out] at hra hrb
              obtain ⟨ga, x, hea, hxa, a0, a1, a2, a3⟩ := hra.four (j := i2) (by rw [HNN.out]; exact hj)
              obtain ⟨gb, x', heb, hxb, b0, b1, b2, b3⟩ := hrb.four (j := i2) (by rw [HNN.out]; exact hj)
              obtain rfl : x = x' := Option.some.inj (hxa.symm.trans hxb)
              injection hea with hea
              injection heb with heb
              subst hea heb
              have e0 := neq_word x.k x.a x.f (M.V x)
              clear hra hrb hxa hxb
              go_wp2_with fail
              go_quiet (fail)
              have hbn := Lib.hid (HK.out.trans ((below_drewN' (Below.refl _ w2) nq).mono HK.out.size))
              clear e0 a0 a1 a2 a3 b0 b1 b2 b3
              go_wp2_with fail
              go_roundw
              case rel => exact ⟨i2 + 1, by have := HNN.out; omega, by go_num, hbn⟩
              case measure => have := HNN.out; simp [intOf]; omega
            · have hnj : ¬ (i2 : Int) < (N : Int) := by omega
              have HBZ := Lib.hid (HB9.out.trans (HK.out.mono HB9.out.size))
              have HMZ := Lib.hid (HM9.out.below HK.out)
              clear HRA HRB HK HB9 HM9
              go_wp2_with fail
              ((with_reducible refine (lives14_any HMZ.out).mono ?_); rintro e w10 ⟨rfl, hb10⟩)
              have HZ := Lib.hid (HBZ.out.trans (hb10.mono HBZ.out.size))
              clear hb10
              go_wp2_with fail
              go_ret
              exact ⟨rfl, HZ.out⟩
set_option maxRecDepth 100000 in
set_option maxHeartbeats 4000000 in
theorem sstill_long (A0 : Option Addr) (n c0 : Nat) (bk : Int) (W : World) (hM : LayM W) (h : ¬ n ≤ 16) :
    Calls Tryd.prog 5 #[.slice A0 n c0, .int .u8 bk] W fun e W' => e = .returned (.bool true) ∧ Below W.heap.size W W' := by
  have HM := Lib.hid hM
  have q1 : (16 : Int) < (n : Int) := by omega
  clear hM h
  go_enter Tryd.func5, Tryd.ntmps5
  go_wp2_with fail
  ((with_reducible refine (lives14_any HM.out).mono ?_); rintro e w1 ⟨rfl, hb⟩)
  have HB := Lib.hid hb
  clear hb
  go_wp2_with fail
  go_ret
  exact ⟨rfl, HB.out⟩
end Go.Proofs.YtapcgikamldchaaDoor
