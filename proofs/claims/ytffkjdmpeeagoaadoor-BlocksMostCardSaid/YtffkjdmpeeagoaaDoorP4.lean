/-
  The program's memory: what the call of CAS does; condition: the table of rooms reads as the program lays it; the memory lies as it says, fewer than 2^62 steps and words, numbers of their kinds.
-/
import Derived.Test.YtffkjdmpeeagoaaDoorP3
namespace Go.Proofs.YtffkjdmpeeagoaaDoor
open Go.RowKit Go.Maps

/-- Does a CAS? -/
def casB (D : DataW Unit) (x : Ad) (u : Int) : Bool := mayB x.k x.a x.f && decide (valD D x = u)
/-- What a CAS makes of the words. -/
def casD (D : DataW Unit) (x : Ad) (u v : Int) : DataW Unit := if casB D x u = true then putD D x v else D
set_option maxRecDepth 100000 in
set_option maxHeartbeats 4000000 in
theorem cas_prog (p b n : Nat) (D : DataW Unit) (st ak k a f was is : Int) (done : Bool) (x : Ad) (u v : Int) (hv : (Lit.int .u64 v).wf = true) (hs0 : 0 ≤ st) (hs1 : st < 4611686018427387904) (hn : n < 4611686018427387904) (w : World) (hl : LayM w) (h : PM p b n D st ak k a f was is done w) :
    Calls Tryd.prog 104 #[.pointer (some ⟨p, 0, none⟩), x.v, .int .u64 u, .int .u64 v] w fun e w' => e = .returned (.bool (casB D x u)) ∧ PM p b (n + 1) (casD D x u v) (st + 1) 3 x.k x.a x.f (valD D x) (valD (casD D x u v) x) (casB D x u) w' ∧ Only p b w w' := by
  have hbx := (box_below w x).drew
  have HP := Lib.hid (h.below hbx)
  have HO := Lib.hid (Only.of_below (p := p) (b := b) hbx)
  have HL := Lib.hid (hl.below hbx)
  have hww : w.heap.size < (w.alloc (boxA x)).drew.heap.size := by simp [boxA, World.drew]
  have hpw := h.lt
  have hbw := h.own.lt
  obtain ⟨d0, d1, d2⟩ := box_cells w x
  have c0 : (w.alloc (boxA x)).cell? ⟨p, 0, none⟩ = some (.map (some b)) := HP.out.cell 0
  unfold boxA at c0
  clear h hl hbx
  simp only [Ad.v, addrV]
  go_enter Tryd.func104, Tryd.ntmps104
  go_wp2_with (go_at_call 46; refine (made_yes p b _ c0).mono ?_; rintro e w' ⟨rfl, rfl⟩)
  refine wp_region_still_tail 6 (by kernel_rfl) (by kernel_rfl) ?_
  change wpStill _ _ (w.alloc (boxA x)).drew (fun a' => wpList _ _ _ _ a' (w.alloc (boxA x)).drew) _ _
  clear c0
  revert HP HO HL hww d0 d1 d2
  generalize (w.alloc (boxA x)).drew = wd
  intro HP HO HL hww d0 d1 d2
  have pc : wd.cell? ⟨p, 0, none⟩ = some (.map (some b)) := HP.out.cell 0
  have hrun := (HP.out.lookup x).1
  have hmay := may_prog x wd HL.out
  simp only [Ad.v, addrV] at hrun hmay
  obtain ⟨c, hc⟩ : ∃ c, valD D x = c := ⟨_, rfl⟩
  rw [hc] at hrun
  have HC := Lib.hid hc
  simp only [List.take_succ_cons, List.take_zero, List.drop_succ_cons, List.drop_zero]
  iterate 6 still_step
  refine wpStill_nil ?_
  by_cases hm : mayB x.k x.a x.f = true
  · rw [hm] at hmay
    by_cases hcu : c = u
    · have HB := Lib.hid (show casB D x u = true by unfold casB; rw [hm, hc]; simpa using hcu)
      have HE := Lib.hid (show casD D x u v = putD D x v from if_pos HB.out)
      subst hcu
      clear hm hc
      go_wp2_with (first | (go_at_call 57; refine hmay.mono ?_; rintro e w1 ⟨rfl, hb1⟩; have HB1 := Lib.hid hb1; have hw1 : w.heap.size < w1.heap.size := Nat.lt_of_lt_of_le hww hb1.size; have g0 := (hb1.cell (p := ⟨w.heap.size, 0, none⟩) hww).trans d0; have g1 := (hb1.cell (p := ⟨w.heap.size, 1, none⟩) hww).trans d1; have g2 := (hb1.cell (p := ⟨w.heap.size, 2, none⟩) hww).trans d2; clear hb1 hmay; have HP1 := Lib.hid (HP.out.below HB1.out); have hput := put_prog p b n D st ak k a f was is done x v hv hn w1 HP1.out; simp only [Ad.v, addrV] at hput) | (go_at_call 58; refine hput.mono ?_; rintro e w2 ⟨rfl, hp2, ho2⟩; have HP2 := Lib.hid hp2; have HO2 := Lib.hid ho2; have hbk := ho2.block w.heap.size hw1 (by omega) (by omega); have k0 := (World.cell?_of_block (a := ⟨w.heap.size, 0, none⟩) hbk).trans g0; have k1 := (World.cell?_of_block (a := ⟨w.heap.size, 1, none⟩) hbk).trans g1; have k2 := (World.cell?_of_block (a := ⟨w.heap.size, 2, none⟩) hbk).trans g2; clear hp2 ho2 hbk hput; have hcnt := count_prog p b (n + 1) (putD D x v) st ak k a f was is done 3 x c true hs0 hs1 w2 HP2.out; simp only [Ad.v, addrV] at hcnt) | (go_at_call 56; refine hcnt.mono ?_; rintro e w3 ⟨rfl, hp3, ho3⟩; have HP3 := Lib.hid hp3; have HO3 := Lib.hid ho3; clear hp3 ho3 hcnt))
      go_ret
      rw [HB.out, HE.out, HC.out]
      exact ⟨rfl, HP3.out, HO.out.trans ((Only.of_below HB1.out).trans (HO2.out.trans HO3.out))⟩
    · have HB := Lib.hid (show casB D x u = false by unfold casB; rw [hm, hc]; simpa using hcu)
      have HE := Lib.hid (show casD D x u v = D from if_neg (by rw [HB.out]; simp))
      have hcu' : (c == u) = false := by simpa using hcu
      clear hm hc hcu
      go_wp2_with (first | (go_at_call 57; refine hmay.mono ?_; rintro e w1 ⟨rfl, hb1⟩; have HB1 := Lib.hid hb1; have hw1 : w.heap.size < w1.heap.size := Nat.lt_of_lt_of_le hww hb1.size; have g0 := (hb1.cell (p := ⟨w.heap.size, 0, none⟩) hww).trans d0; have g1 := (hb1.cell (p := ⟨w.heap.size, 1, none⟩) hww).trans d1; have g2 := (hb1.cell (p := ⟨w.heap.size, 2, none⟩) hww).trans d2; clear hb1 hmay; have HP1 := Lib.hid (HP.out.below HB1.out); have hcnt := count_prog p b n D st ak k a f was is done 3 x c false hs0 hs1 w1 HP1.out; simp only [Ad.v, addrV] at hcnt) | (go_at_call 56; refine hcnt.mono ?_; rintro e w3 ⟨rfl, hp3, ho3⟩; have HP3 := Lib.hid hp3; have HO3 := Lib.hid ho3; clear hp3 ho3 hcnt))
      go_ret
      have h3 := HP3.out
      rw [HB.out, HE.out, HC.out]
      rw [HC.out] at h3
      exact ⟨rfl, ⟨h3.blk, h3.own.mono (Nat.le_succ n)⟩, HO.out.trans ((Only.of_below HB1.out).trans HO3.out)⟩
  · have hm' : mayB x.k x.a x.f = false := by simpa using hm
    rw [hm'] at hmay
    have HB := Lib.hid (show casB D x u = false by unfold casB; rw [hm']; rfl)
    have HE := Lib.hid (show casD D x u v = D from if_neg (by rw [HB.out]; simp))
    clear hm hm' hc
    go_wp2_with (first | (go_at_call 57; refine hmay.mono ?_; rintro e w1 ⟨rfl, hb1⟩; have HB1 := Lib.hid hb1; have hw1 : w.heap.size < w1.heap.size := Nat.lt_of_lt_of_le hww hb1.size; have g0 := (hb1.cell (p := ⟨w.heap.size, 0, none⟩) hww).trans d0; have g1 := (hb1.cell (p := ⟨w.heap.size, 1, none⟩) hww).trans d1; have g2 := (hb1.cell (p := ⟨w.heap.size, 2, none⟩) hww).trans d2; clear hb1 hmay; have HP1 := Lib.hid (HP.out.below HB1.out); have hcnt := count_prog p b n D st ak k a f was is done 3 x c false hs0 hs1 w1 HP1.out; simp only [Ad.v, addrV] at hcnt) | (go_at_call 56; refine hcnt.mono ?_; rintro e w3 ⟨rfl, hp3, ho3⟩; have HP3 := Lib.hid hp3; have HO3 := Lib.hid ho3; clear hp3 ho3 hcnt))
    go_ret
    have h3 := HP3.out
    rw [HB.out, HE.out, HC.out]
    rw [HC.out] at h3
    exact ⟨rfl, ⟨h3.blk, h3.own.mono (Nat.le_succ n)⟩, HO.out.trans ((Only.of_below HB1.out).trans HO3.out)⟩
end Go.Proofs.YtffkjdmpeeagoaaDoor
