/-
  The law RetiresParts, walked: it returns true and only makes memory of its own; condition: what the package does.
-/
import Derived.Test.YthcclgnadhcndaaLOnce
namespace Go.Proofs.Ythcclgnadhcndaa
open Go.RowKit Go.Maps

section
variable {w w' W : World} {q : Nat} {fp fp' : List Nat} {l l' ll o e : List EP} {v v7 v8 v9 : Value} {f : Nat → Bool}
/-- The list, and three rows beside it. -/
structure PtS (W : World) (q : Nat) (fp : List Nat) (ll : List EP) (v7 v8 v9 : Value) (l o e : List EP) (w : World) : Prop where
  s : SR W q fp ll w
  r7 : RowR W fp v7 l w
  r8 : RowR W fp v8 o w
  r9 : RowR W fp v9 e w
theorem PtS.below (h : PtS W q fp ll v7 v8 v9 l o e w) (hb : Below w.heap.size w w') : PtS W q fp ll v7 v8 v9 l o e w' := ⟨h.s.below hb, h.r7.below hb, h.r8.below hb, h.r9.below hb⟩
theorem PtS.nx (h : PtS W q fp ll v7 v8 v9 l o e w) (s : SR W q fp' l' w') (hf : ∀ x ∈ fp', x ∈ fp ∨ w.heap.size ≤ x) (k : Kp fp w w') : PtS W q fp' l' v7 v8 v9 l o e w' := ⟨s, h.r7.nx k hf, h.r8.nx k hf, h.r9.nx k hf⟩
/-- A row of bools of its own beside the list. -/
structure RowB (W : World) (fp : List Nat) (v : Value) (bs : List Bool) (w : World) : Prop where
  own : OwnB w W.heap.size v bs
  ap : ∀ x, v.ownBlock = some x → x ∉ fp
theorem RowB.below {bs : List Bool} (h : RowB W fp v bs w) (hb : Below w.heap.size w w') : RowB W fp v bs w' := ⟨h.own.below hb, h.ap⟩
theorem RowR.gr {bs : List Bool} {xs : List EP} {v' : Value} (h : RowR W fp v' xs w) (hb : RowB W fp v bs w) (g : w.grownBy w' v.ownBlock) : RowR W fp v' xs w' := ⟨h.own.same fun x hx => g.block x (h.own.lt hx) fun e => by
  obtain ⟨_, cs, k⟩ := h.own.bq hx
  obtain ⟨_, ds, k'⟩ := hb.own.bq (Eq.symm e)
  exact absurd (bq_type k k') (by decide), h.ap⟩
theorem SR.gr {bs : List Bool} (h : SR W q fp ll w) (hb : RowB W fp v bs w) (g : w.grownBy w' v.ownBlock) : SR W q fp ll w' := ⟨h.low.grown g h.low.size fun _ hx => (hb.own.bq hx).1, h.p.same fun y hy => g.block y (h.p.lt y hy) fun e => hb.ap y (Eq.symm e) hy, h.lo⟩
theorem PtS.gr {bs : List Bool} (h : PtS W q fp ll v7 v8 v9 l o e w) (hb : RowB W fp v bs w) (g : w.grownBy w' v.ownBlock) : PtS W q fp ll v7 v8 v9 l o e w' := ⟨h.s.gr hb g, h.r7.gr hb g, h.r8.gr hb g, h.r9.gr hb g⟩
theorem RowB.push {v' : Value} {i : Nat} (h : RowB W fp v (List.replicate i true) w) (s : SR W q fp ll w) (ho : OwnB w' W.heap.size v' (List.replicate i true ++ [true])) (_g : w.grownBy w' v.ownBlock) (hb : v'.ownBlock = v.ownBlock ∨ v'.ownBlock = some w.heap.size) : ∃ A k, v' = .slice A (i + 1) k ∧ RowB W fp v' (List.replicate (i + 1) true) w' := by
  rw [← List.replicate_succ'] at ho
  obtain ⟨A, k, rfl⟩ := ownsRow_form ho
  refine ⟨A, k, by rw [List.length_replicate], ho, fun x hx hm => ?_⟩
  rcases hb with hb | hb
  · exact h.ap x (hb ▸ hx) hm
  · have := s.p.lt x hm
    rw [hb] at hx
    injection hx with hx
    omega
theorem SR.add2 (h : SR W q fp l w) (hl : l.length < 1000) {es eg eb ec ed N : Int} {ek : Bool} (hk : RP.ok ⟨es, eg, ek⟩) (hN : addN l ⟨es, eg, ek, eb, ec, ed⟩ = N) (hE : addE l ⟨es, eg, ek, eb, ec, ed⟩ = l') : Calls Try.prog 13 #[.pointer (some ⟨q, 0, none⟩), .agg #[.int .i64 es, .int .u32 eg, .bool ek, .int .u64 eb, .int .u64 ec, .int .u64 ed]] w fun e w' => e = .returned (.int .i64 N) ∧ ∃ fp', SR W q fp' l' w' ∧ (∀ x ∈ fp', x ∈ fp ∨ w.heap.size ≤ x) ∧ Kp fp w w' := by
  subst hN hE
  exact h.add hl es eg eb ec ed ek hk
theorem InvR.again (I : InvR l) (f : Nat → Bool) {i : Nat} (hi : i < (outE l f l.length).length) : addN (leftE l f l.length ++ (outE l f l.length).take i) ((outE l f l.length).getD i EP.zero) = 0 ∧ addE (leftE l f l.length ++ (outE l f l.length).take i) ((outE l f l.length).getD i EP.zero) = leftE l f l.length ++ (outE l f l.length).take (i + 1) ∧ addN (leftE l f l.length ++ (outE l f l.length).take (i + 1)) ((outE l f l.length).getD i EP.zero) = 8 ∧ addE (leftE l f l.length ++ (outE l f l.length).take (i + 1)) ((outE l f l.length).getD i EP.zero) = leftE l f l.length ++ (outE l f l.length).take (i + 1) := by
  have hok := (I.out f).at_ hi
  have hin : (outE l f l.length).take (i + 1) = (outE l f l.length).take i ++ [(outE l f l.length).getD i EP.zero] := take_next hi
  have hno : ((outE l f l.length).getD i EP.zero).ref ∉ (leftE l f l.length ++ (outE l f l.length).take i).map EP.ref := by
    have hnd := (I.both f).nd
    have hsp : leftE l f l.length ++ outE l f l.length = (leftE l f l.length ++ (outE l f l.length).take i) ++ ((outE l f l.length).getD i EP.zero :: (outE l f l.length).drop (i + 1)) := by
      rw [List.append_assoc, List.getD_eq_getElem?_getD, List.getElem?_eq_getElem hi]
      simp
    rw [hsp, List.map_append, List.nodup_append] at hnd
    exact fun hm => hnd.2.2 _ hm _ (by simp) rfl
  obtain ⟨h1, h2⟩ := add_yes hok hno
  have h3 : ((outE l f l.length).getD i EP.zero).ref ∈ (leftE l f l.length ++ (outE l f l.length).take (i + 1)).map EP.ref := List.mem_map.2 ⟨_, by rw [hin]; simp, rfl⟩
  obtain ⟨h4, h5⟩ := add_same hok h3
  exact ⟨h1, by rw [h2, hin, List.append_assoc], h4, h5⟩
theorem fB_all {n : Nat} : ∀ i, i < n → fB (List.replicate n true) i = true := fun i hi => by
  unfold fB
  rw [List.getD_eq_getElem?_getD, List.getElem?_eq_getElem (by simpa using hi)]
  simp
theorem BoolV.nil (w : World) : BoolV w (.slice none 0 0) [] := by
  unfold BoolV SeeB
  exact .inl (.inl ⟨rfl, rfl⟩)
theorem fB_no (i : Nat) : fB [] i = false := rfl
end
set_option maxRecDepth 100000 in
set_option maxHeartbeats 4000000 in
theorem parts_long (A Ab : Option Addr) (n c nb cb : Nat) (W : World) (hn : ¬ (n ≤ 100 ∧ nb ≤ 200)) : Calls Try.prog 5 #[.slice A n c, .slice Ab nb cb] W fun e W' => e = .returned (.bool true) ∧ Below W.heap.size W W' := by
  have hn' : 100 < n ∨ (n ≤ 100 ∧ 200 < nb) := by omega
  clear hn
  go_enter Try.func5, Try.ntmps5
  rcases hn' with h | ⟨h, h2⟩
  · have h1 : (100 : Int) < (n : Int) := by omega
    go_wp2_with fail
    ((with_reducible refine (lives_any W).mono ?_); rintro e w4 ⟨rfl, hb⟩)
    go_wp2_with fail
    go_ret
    exact ⟨rfl, hb⟩
  · have h1 : ¬ (100 : Int) < (n : Int) := by omega
    have h3 : (200 : Int) < (nb : Int) := by omega
    go_wp2_with fail
    ((with_reducible refine (lives_any W).mono ?_); rintro e w4 ⟨rfl, hb⟩)
    go_wp2_with fail
    go_ret
    exact ⟨rfl, hb⟩
set_option maxRecDepth 100000 in
set_option maxHeartbeats 32000000 in
theorem parts_good (A Ab : Option Addr) (n c nb cb : Nat) (es : List EP) (bs : List Bool) (W : World) (hn : n ≤ 100) (hnb : nb ≤ 200) (hS : SeeE W (.slice A n c) es) (hB : BoolV W (.slice Ab nb cb) bs) (hok : ∀ e ∈ es, EP.ok e) : Calls Try.prog 5 #[.slice A n c, .slice Ab nb cb] W fun e W' => e = .returned (.bool true) ∧ Below W.heap.size W W' := by
  have h1 : ¬ (100 : Int) < (n : Int) := by omega
  have h2 : ¬ (200 : Int) < (nb : Int) := by omega
  obtain ⟨i0, hi0, hz0, hz1, hz2⟩ := info_parts infoBo
  have HN := Lib.hid hS.len
  have HNB := Lib.hid hB.len
  have HS := Lib.hid hS
  have HV := Lib.hid hB
  have HOK := Lib.hid hok
  clear hS hB hok
  go_enter Try.func5, Try.ntmps5
  go_wp2_with fail
  ((with_reducible refine (SR.new (Below.refl W.heap.size W)).mono ?_); rintro e w1 ⟨q, fp1, rfl, h1s, _⟩)
  have HS1 := Lib.hid h1s
  clear h1s
  go_wp2_with fail
  go_loopw [6] (fun j wr => ∃ i : Nat, i ≤ n ∧ j = .int .i64 (i : Int) ∧ Hid (∃ fp l, SR W q fp l wr ∧ l.length ≤ i)) (fun j _ => n - (intOf j).toNat)
  case atStart => exact ⟨0, Nat.zero_le _, rfl, Lib.hid ⟨_, _, HS1.out, Nat.le_refl _⟩⟩
  case round =>
    clear HS1
    obtain ⟨i, hi, rfl, HR⟩ := hrel
    rename World => wr
    obtain ⟨fp, l, hs, hli⟩ := HR.out
    have HSR := Lib.hid hs
    have HLI := Lib.hid hli
    clear HR hs hli
    have hge : (0 : Int) ≤ (i : Int) := by omega
    by_cases hlt : i < n
    · have hlt' : (i : Int) < (n : Int) := by omega
      have hig : i < es.length := by have := HN.out; omega
      obtain ⟨hc0, hc1, g1, o1, rfl⟩ := HS.out.addr (by omega)
      have hsee : SeeE wr (.slice (some ⟨g1, o1, none⟩) n c) es := HS.out.below HSR.out.low
      obtain ⟨y0, y1, y2, y3, y4, y5⟩ := hsee.six hig
      have hme : es.getD i EP.zero ∈ es := by
        rw [List.getD_eq_getElem?_getD, List.getElem?_eq_getElem hig]
        exact List.getElem_mem _
      have hoe := HOK.out _ hme
      generalize es.getD i EP.zero = ev at *
      obtain ⟨zs, zg, zk, zb, zc, zd⟩ := ev
      dsimp only at y0 y1 y2 y3 y4 y5
      have HOE := Lib.hid hoe
      clear hsee hme hoe
      go_wp2_with fail
      ((with_reducible refine (HSR.out.add (by have := HLI.out; omega) zs zg zb zc zd zk (ok_rp HOE.out)).mono ?_); rintro e w2 ⟨rfl, fp2, h2, _, _⟩)
      have HS2 := Lib.hid h2
      have HAL := Lib.hid (add_le l ⟨zs, zg, zk, zb, zc, zd⟩)
      clear y0 y1 y2 y3 y4 y5 h2 HSR
      go_wp2_with fail
      go_roundw
      case rel => exact ⟨i + 1, by omega, by go_num, Lib.hid ⟨_, _, HS2.out, by have := HAL.out; have := HLI.out; omega⟩⟩
      case measure => simp [intOf]; omega
    · have hnl : ¬ (i : Int) < (n : Int) := by omega
      have HL9 := Lib.hid (show l.length ≤ 100 by have := HLI.out; omega)
      clear HLI
      go_wp2_with fail
      ((with_reducible refine (HSR.out.all (by have := HL9.out; omega)).mono ?_); rintro e w2 ⟨A7, c7, rfl, hr2, hs2, _, _⟩)
      obtain ⟨L, hL⟩ : ∃ L, l.length = L := ⟨_, rfl⟩
      rw [hL] at hr2 ⊢
      have HLL := Lib.hid hL
      have HR7 := Lib.hid hr2
      have HS2 := Lib.hid hs2
      have HI := Lib.hid hs2.p.inv
      have HIK := Lib.hid hs2.p.ok
      have hL100 : L ≤ 100 := by have := HL9.out; omega
      clear hr2 hs2 HSR hge hnl hlt hi hL
      go_wp2_with fail
      ((with_reducible refine (HS2.out.sweep (v := .slice none 0 0) (bs := []) (by have := HL9.out; omega) (BoolV.nil w2)).mono ?_); rintro e w3 ⟨A3, c3, fp3, rfl, _, hs3, hf3, hk3, _⟩)
      have HR73 := Lib.hid (HR7.out.nx hk3 hf3)
      obtain ⟨ho, hle⟩ := out_no (l := l) (f := fB []) fB_no l.length (Nat.le_refl _)
      rw [List.take_length] at hle
      rw [hle] at hs3
      rw [ho]
      have HS3 := Lib.hid hs3
      clear hs3 hf3 hk3 ho hle HR7 HS2
      go_wp2_with fail
      ((with_reducible refine (HS3.out.all (by have := HL9.out; omega)).mono ?_); rintro e w4 ⟨A4, c4, rfl, hr4, hs4, hb4, _⟩)
      have HR74 := Lib.hid (HR73.out.below hb4)
      rw [HLL.out] at hr4 ⊢
      have HR4 := Lib.hid hr4
      have HS4 := Lib.hid hs4
      clear hr4 hs4 hb4 HS3 HR73
      go_wp2_with fail
      ((with_reducible refine (same_any HR4.out.own.see HR74.out.own.see (by omega)).mono ?_); rintro e w5 ⟨rfl, hb5⟩)
      have HR75 := Lib.hid (HR74.out.below hb5)
      have HS5 := Lib.hid (HS4.out.below hb5)
      rw [decide_eq_true rfl]
      clear hb5 HR74 HS4 HR4
      go_wp2_with fail
      ((with_reducible refine (HS5.out.sweep (by have := HL9.out; omega) (HV.out.below HS5.out.low)).mono ?_); rintro e w6 ⟨A8, c8, fp6, rfl, hr6, hs6, hf6, hk6, _⟩)
      have HR76 := Lib.hid (HR75.out.nx hk6 hf6)
      obtain ⟨F, hF⟩ : ∃ F, fB bs = F := ⟨_, rfl⟩
      rw [hF] at hr6 hs6 ⊢
      have HF := Lib.hid hF
      have HOL := Lib.hid (out_left l F l.length)
      obtain ⟨No, hNo⟩ : ∃ No, (outE l F l.length).length = No := ⟨_, rfl⟩
      rw [hNo] at hr6 ⊢
      have HNo := Lib.hid hNo
      have HR86 := Lib.hid hr6
      have HS6 := Lib.hid hs6
      clear hr6 hs6 hf6 hk6 hF hNo HS5 HR75
      go_wp2_with fail
      ((with_reducible refine (HS6.out.all (by have := HL9.out; have := HOL.out; omega)).mono ?_); rintro e w7 ⟨A9, c9, rfl, hr9, hs9, hb9, _⟩)
      obtain ⟨Nl, hNl⟩ : ∃ Nl, (leftE l F l.length).length = Nl := ⟨_, rfl⟩
      rw [hNl] at hr9 ⊢
      have HNl := Lib.hid hNl
      have hadd : No + Nl = L := by have := HOL.out; have := HNo.out; have := HLL.out; omega
      have HP := Lib.hid (PtS.mk hs9 (HR76.out.below hb9) (HR86.out.below hb9) hr9)
      clear hr9 hs9 hb9 hNl HS6 HR76 HR86
      go_wp2_with fail
      go_loopw [10, 11, 12] (fun x y j wr => ∃ i a b : Nat, i ≤ L ∧ j = .int .i64 (i : Int) ∧ x = .int .i64 (a : Int) ∧ y = .int .i64 (b : Int) ∧ a ≤ i ∧ b ≤ i ∧ Hid ((outE l F i).length = a ∧ (leftE l F i).length = b ∧ PtS W q fp6 (leftE l F l.length) (.slice A7 L c7) (.slice A8 No c8) (.slice A9 Nl c9) l (outE l F l.length) (leftE l F l.length) wr)) (fun _ _ j _ => L - (intOf j).toNat)
      case atStart => exact ⟨0, 0, 0, Nat.zero_le _, rfl, rfl, rfl, Nat.le_refl _, Nat.le_refl _, Lib.hid ⟨rfl, rfl, HP.out⟩⟩
      case round =>
        clear HP
        obtain ⟨i, a, b, hi, rfl, rfl, rfl, hai, hbi, HR⟩ := hrel
        rename World => wr
        have hge : (0 : Int) ≤ (i : Int) := by omega
        have hga : (0 : Int) ≤ (a : Int) := by omega
        have hgb : (0 : Int) ≤ (b : Int) := by omega
        by_cases hlt : i < L
        · have hlt' : (i : Int) < (L : Int) := by omega
          have hil : i < l.length := by have := HLL.out; omega
          obtain ⟨hc0, hc1, g1, o1, rfl⟩ := HR.out.2.2.r7.own.see.addr (by omega)
          obtain ⟨y0, y1, y2, y3, y4, y5⟩ := HR.out.2.2.r7.own.see.six hil
          by_cases hib : i < nb
          · have hib' : (i : Int) < (nb : Int) := by omega
            have hbs := (HV.out.below HR.out.2.2.s.low).see (by omega)
            obtain ⟨hcb0, hcb1, g2, o2, rfl⟩ := hbs.addr (by omega)
            have x0 := hbs.at_ (j := i) (by have := HNB.out; omega)
            have hFi : F i = bs.getD i false := by rw [← HF.out]; rfl
            rw [← hFi] at x0
            clear hbs hFi
            generalize hf : F i = f at *
            cases f
            · obtain ⟨hla, hga2⟩ := left_at (l := l) (f := F) (n := l.length) hil hf
              have HE1 := Lib.hid (show (outE l F (i + 1)).length = a by rw [out_len, hf, HR.out.1]; rfl)
              have HE2 := Lib.hid (show (leftE l F (i + 1)).length = b + 1 by rw [left_len, hf, HR.out.2.1]; rfl)
              rw [HR.out.2.1] at hla hga2
              have hlx : b < Nl := by rw [← HNl.out]; exact hla
              have hlx' : (b : Int) < (Nl : Int) := by omega
              have hnx' : ¬ (Nl : Int) ≤ (b : Int) := by omega
              obtain ⟨hd0, hd1, g3, o3, rfl⟩ := HR.out.2.2.r9.own.see.addr (by omega)
              have hsx := HR.out.2.2.r9.own.see.six hla
              rw [hga2] at hsx
              obtain ⟨z0, z1, z2, z3, z4, z5⟩ := hsx
              clear hga2 hla
              generalize l.getD i EP.zero = ev at *
              obtain ⟨zs, zg, zk, zb, zc, zd⟩ := ev
              dsimp only at y0 y1 y2 y3 y4 y5 z0 z1 z2 z3 z4 z5
              have hqq := neq_ent zs zg zb zc zd zs zg zb zc zd zk zk
              rw [decide_eq_true rfl] at hqq
              have hqq : ∀ w : World, _ := fun w => (hqq w).trans (by rfl : _ = Result.ok (.bool false) w)
              clear hf
              go_wp2_with fail
              go_quiet (fail)
              have hP := Lib.hid (HR.out.2.2.below (below_drewN' (Below.refl _ wr) nq))
              clear hqq y0 y1 y2 y3 y4 y5 z0 z1 z2 z3 z4 z5
              go_wp2_with fail
              go_roundw
              case rel => exact ⟨i + 1, a, b + 1, by omega, by go_num, rfl, by go_num, by omega, by omega, Lib.hid ⟨HE1.out, HE2.out, hP.out⟩⟩
              case measure => simp [intOf]; omega
            · obtain ⟨hla, hga2⟩ := out_at (l := l) (f := F) (n := l.length) hil hf
              have HE1 := Lib.hid (show (outE l F (i + 1)).length = a + 1 by rw [out_len, hf, HR.out.1]; rfl)
              have HE2 := Lib.hid (show (leftE l F (i + 1)).length = b by rw [left_len, hf, HR.out.2.1]; rfl)
              rw [HR.out.1] at hla hga2
              have hlx : a < No := by rw [← HNo.out]; exact hla
              have hlx' : (a : Int) < (No : Int) := by omega
              have hnx' : ¬ (No : Int) ≤ (a : Int) := by omega
              obtain ⟨hd0, hd1, g3, o3, rfl⟩ := HR.out.2.2.r8.own.see.addr (by omega)
              have hsx := HR.out.2.2.r8.own.see.six hla
              rw [hga2] at hsx
              obtain ⟨z0, z1, z2, z3, z4, z5⟩ := hsx
              clear hga2 hla
              generalize l.getD i EP.zero = ev at *
              obtain ⟨zs, zg, zk, zb, zc, zd⟩ := ev
              dsimp only at y0 y1 y2 y3 y4 y5 z0 z1 z2 z3 z4 z5
              have hqq := neq_ent zs zg zb zc zd zs zg zb zc zd zk zk
              rw [decide_eq_true rfl] at hqq
              have hqq : ∀ w : World, _ := fun w => (hqq w).trans (by rfl : _ = Result.ok (.bool false) w)
              clear hf
              go_wp2_with fail
              go_quiet (fail)
              have hP := Lib.hid (HR.out.2.2.below (below_drewN' (Below.refl _ wr) nq))
              clear hqq y0 y1 y2 y3 y4 y5 z0 z1 z2 z3 z4 z5
              go_wp2_with fail
              go_roundw
              case rel => exact ⟨i + 1, a + 1, b, by omega, by go_num, by go_num, rfl, by omega, by omega, Lib.hid ⟨HE1.out, HE2.out, hP.out⟩⟩
              case measure => simp [intOf]; omega
          · have hnib : ¬ (i : Int) < (nb : Int) := by omega
            have hf : F i = false := by rw [← HF.out]; exact fB_at (by have := HNB.out; omega)
            obtain ⟨hla, hga2⟩ := left_at (l := l) (f := F) (n := l.length) hil hf
            have HE1 := Lib.hid (show (outE l F (i + 1)).length = a by rw [out_len, hf, HR.out.1]; rfl)
            have HE2 := Lib.hid (show (leftE l F (i + 1)).length = b + 1 by rw [left_len, hf, HR.out.2.1]; rfl)
            rw [HR.out.2.1] at hla hga2
            have hlx : b < Nl := by rw [← HNl.out]; exact hla
            have hlx' : (b : Int) < (Nl : Int) := by omega
            have hnx' : ¬ (Nl : Int) ≤ (b : Int) := by omega
            obtain ⟨hd0, hd1, g3, o3, rfl⟩ := HR.out.2.2.r9.own.see.addr (by omega)
            have hsx := HR.out.2.2.r9.own.see.six hla
            rw [hga2] at hsx
            obtain ⟨z0, z1, z2, z3, z4, z5⟩ := hsx
            clear hga2 hla
            generalize l.getD i EP.zero = ev at *
            obtain ⟨zs, zg, zk, zb, zc, zd⟩ := ev
            dsimp only at y0 y1 y2 y3 y4 y5 z0 z1 z2 z3 z4 z5
            have hqq := neq_ent zs zg zb zc zd zs zg zb zc zd zk zk
            rw [decide_eq_true rfl] at hqq
            have hqq : ∀ w : World, _ := fun w => (hqq w).trans (by rfl : _ = Result.ok (.bool false) w)
            clear hf
            go_wp2_with fail
            go_quiet (fail)
            have hP := Lib.hid (HR.out.2.2.below (below_drewN' (Below.refl _ wr) nq))
            clear hqq y0 y1 y2 y3 y4 y5 z0 z1 z2 z3 z4 z5
            go_wp2_with fail
            go_roundw
            case rel => exact ⟨i + 1, a, b + 1, by omega, by go_num, rfl, by go_num, by omega, by omega, Lib.hid ⟨HE1.out, HE2.out, hP.out⟩⟩
            case measure => simp [intOf]; omega
        · have hnl : ¬ (i : Int) < (L : Int) := by omega
          have hie : i = l.length := by have := HLL.out; omega
          have e1 := HR.out.1
          have e2 := HR.out.2.1
          rw [hie] at e1 e2
          have e3 : a = No := by rw [← e1]; exact HNo.out
          have e4 : b = Nl := by rw [← e2]; exact HNl.out
          subst e3 e4
          have HP := Lib.hid HR.out.2.2
          clear e1 e2 HR hie hlt hi hai hbi hge
          go_wp2_with fail
          ((with_reducible refine HP.out.s.len.mono ?_); rintro e w8 ⟨rfl, hs8, hb8⟩)
          rw [HNl.out]
          have HP8 := Lib.hid (HP.out.below hb8)
          clear hs8 hb8 HP
          clear hnl
          go_wp2_with fail
          go_loopw [13] (fun j wr => ∃ i : Nat, i ≤ a ∧ j = .int .i64 (i : Int) ∧ Hid (∃ fp, PtS W q fp (leftE l F l.length ++ (outE l F l.length).take i) (.slice A7 L c7) (.slice A8 a c8) (.slice A9 b c9) l (outE l F l.length) (leftE l F l.length) wr)) (fun j _ => a - (intOf j).toNat)
          case atStart => exact ⟨0, Nat.zero_le _, rfl, Lib.hid ⟨_, by rw [List.take_zero, List.append_nil]; exact HP8.out⟩⟩
          case round =>
            clear HP8
            obtain ⟨i, hi, rfl, HR⟩ := hrel
            rename World => wr
            have hge : (0 : Int) ≤ (i : Int) := by omega
            have HLN := Lib.hid (show ∀ i, (leftE l F l.length ++ (outE l F l.length).take i).length < 1000 from fun i => by
              have := HOL.out
              have := HL9.out
              have := List.length_take_le i (outE l F l.length)
              have := List.length_take_le' i (outE l F l.length)
              rw [List.length_append]
              omega)
            by_cases hlt : i < a
            · have hlt' : (i : Int) < (a : Int) := by omega
              have hio : i < (outE l F l.length).length := by have := HNo.out; omega
              obtain ⟨fp7, hp7⟩ := HR.out
              obtain ⟨hd0, hd1, g3, o3, rfl⟩ := hp7.r8.own.see.addr (by omega)
              obtain ⟨z0, z1, z2, z3, z4, z5⟩ := hp7.r8.own.see.six hio
              have HP := Lib.hid hp7
              obtain ⟨a1, a2, a3, a4⟩ := HI.out.again F hio
              have hkk : RP.ok ((outE l F l.length).getD i EP.zero).ref := HIK.out _ ((out_sub l F).subset (by
                rw [List.getD_eq_getElem?_getD, List.getElem?_eq_getElem hio]
                exact List.getElem_mem _))
              obtain ⟨ev, hev⟩ : ∃ ev, (outE l F l.length).getD i EP.zero = ev := ⟨_, rfl⟩
              rw [hev] at z0 z1 z2 z3 z4 z5 a1 a2 a3 a4 hkk
              have HEV := Lib.hid hev
              clear hev
              obtain ⟨zs, zg, zk, zb, zc, zd⟩ := ev
              dsimp only at z0 z1 z2 z3 z4 z5
              have HKK := Lib.hid (show RP.ok ⟨zs, zg, zk⟩ from hkk)
              clear hkk
              have HA1 := Lib.hid a1
              have HA2 := Lib.hid a2
              have HA3 := Lib.hid a3
              have HA4 := Lib.hid a4
              clear a1 a2 a3 a4 hp7 HR
              go_wp2_with fail
              ((with_reducible refine (HP.out.s.add2 (HLN.out i) HKK.out HA1.out HA2.out).mono ?_); rintro e w8 ⟨rfl, fp8, hs8, hf8, hk8⟩)
              have HP8 := Lib.hid (HP.out.nx hs8 hf8 hk8)
              have hsx := HP8.out.r8.own.see.six hio
              rw [HEV.out] at hsx
              clear z0 z1 z2 z3 z4 z5 hs8 hf8 hk8 HP
              obtain ⟨z0, z1, z2, z3, z4, z5⟩ := hsx
              dsimp only at z0 z1 z2 z3 z4 z5
              go_wp2_with fail
              ((with_reducible refine (HP8.out.s.add2 (HLN.out (i + 1)) HKK.out HA3.out HA4.out).mono ?_); rintro e w9 ⟨rfl, fp9, hs9, hf9, hk9⟩)
              have HP9 := Lib.hid (HP8.out.nx hs9 hf9 hk9)
              clear z0 z1 z2 z3 z4 z5 hs9 hf9 hk9 HP8
              go_wp2_with fail
              go_roundw
              case rel => exact ⟨i + 1, by omega, by go_num, Lib.hid ⟨_, HP9.out⟩⟩
              case measure => simp [intOf]; omega
            · have hnl : ¬ (i : Int) < (a : Int) := by omega
              obtain ⟨fp7, hp7⟩ := HR.out
              rw [List.take_of_length_le (by have := HNo.out; omega)] at hp7
              obtain ⟨ll, hll⟩ : ∃ ll, leftE l F l.length ++ outE l F l.length = ll := ⟨_, rfl⟩
              rw [hll] at hp7
              have HLK := Lib.hid (show ll.length = L by rw [← hll, List.length_append, HNo.out, HNl.out]; omega)
              have HP := Lib.hid hp7
              clear HR hp7 hll HLN hlt hi hge
              go_wp2_with fail
              go_loopw [14, 15] (fun v j wr => ∃ (i : Nat) (A : Option Addr) (k : Nat), i ≤ L ∧ j = .int .i64 (i : Int) ∧ v = .slice A i k ∧ Hid (PtS W q fp7 ll (.slice A7 L c7) (.slice A8 a c8) (.slice A9 b c9) l (outE l F l.length) (leftE l F l.length) wr ∧ RowB W fp7 (.slice A i k) (List.replicate i true) wr)) (fun _ j _ => L - (intOf j).toNat)
              case atStart => exact ⟨0, none, 0, Nat.zero_le _, rfl, rfl, Lib.hid ⟨HP.out, OwnB.nil _ _, fun _ h => by cases h⟩⟩
              case round =>
                clear HP
                obtain ⟨i, A, k, hi, rfl, rfl, HR⟩ := hrel
                rename World => wr
                have hge : (0 : Int) ≤ (i : Int) := by omega
                by_cases hlt : i < L
                · have hlt' : (i : Int) < (L : Int) := by omega
                  have hA : Below wr.heap.size wr (wr.alloc (.cells #[.bool true] 4)) := (Below.refl _ _).alloc (Nat.le_refl _) _
                  have HP1 := Lib.hid (HR.out.1.below hA)
                  have HB1 := Lib.hid (HR.out.2.below hA)
                  have HBV := Lib.hid (BoolV.of_bq (bs := [true]) (Bq.new wr (bls [true]) _) (by decide))
                  clear hA HR
                  go_wp2_with (at_builtin; refine wpList_append_bools hi0 hz0 hz1 hz2 rfl (.tmp 152) (.tmp 153) rfl W.heap.size (.slice A i k) (List.replicate i true) rfl HB1.out.own (.slice (some ⟨wr.heap.size, 0, none⟩) 1 1) [true] rfl HBV.out (by rw [List.length_replicate]; show i + 1 < _; omega) HP1.out.s.low.size ?_; intro v' w7 h7 g7 b7; obtain ⟨A7', k7', rfl, hb7⟩ := HB1.out.push HP1.out.s h7 g7 b7; have HB7 := Lib.hid hb7; have HP7 := Lib.hid (HP1.out.gr HB1.out g7); clear h7 g7 b7 hb7)
                  go_roundw
                  case rel => exact ⟨i + 1, _, _, by omega, by go_num, rfl, Lib.hid ⟨HP7.out, HB7.out⟩⟩
                  case measure => simp [intOf]; omega
                · have hnl : ¬ (i : Int) < (L : Int) := by omega
                  obtain rfl : i = L := by omega
                  have HSV := Lib.hid (show BoolV wr (.slice A i k) (List.replicate i true) from Or.inl HR.out.2.own.see)
                  have HP := Lib.hid HR.out.1.s
                  obtain ⟨g1, g2⟩ := out_all (l := ll) (f := fB (List.replicate i true)) (n := ll.length) (fun j hj => fB_all j (by have := HLK.out; omega)) ll.length (Nat.le_refl _)
                  have hl9 : ll.length < 1000 := by have := HLK.out; omega
                  have HG1 := Lib.hid (g1.trans HLK.out)
                  have HG2 := Lib.hid g2
                  clear HR g1 g2 hlt hi hge
                  go_wp2_with fail
                  ((with_reducible refine (HP.out.sweep hl9 HSV.out).mono ?_); rintro e w8 ⟨A10, c10, fp10, rfl, _, hs10, _, _, _⟩)
                  rw [HG2.out] at hs10
                  rw [HG1.out]
                  have HS10 := Lib.hid hs10
                  clear hs10 HP HSV
                  go_wp2_with fail
                  ((with_reducible refine HS10.out.len.mono ?_); rintro e w11 ⟨rfl, hs11, _⟩)
                  have HS11 := Lib.hid hs11
                  clear hs11 HS10
                  go_wp2_with fail
                  ((with_reducible refine (HS11.out.born1 (N := 0) (by decide) rfl).mono ?_); rintro e w12 ⟨rfl, hs12, _⟩)
                  have HL12 := Lib.hid hs12.low
                  clear hs12 HS11
                  go_wp2_with fail
                  ((with_reducible refine (lives_any w12).mono ?_); rintro e w13 ⟨rfl, hb13⟩)
                  have HL13 := Lib.hid (HL12.out.trans (hb13.mono HL12.out.size))
                  clear hb13
                  go_wp2_with fail
                  go_ret
                  exact ⟨rfl, HL13.out⟩
end Go.Proofs.Ythcclgnadhcndaa
