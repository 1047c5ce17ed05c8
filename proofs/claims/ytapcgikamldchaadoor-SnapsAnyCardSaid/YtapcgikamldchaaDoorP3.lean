/-
  The program's memory: what the calls of New, Load, Store, CAS, Steps and Last do; condition: the table of rooms reads as the program lays it; the memory lies as it says, fewer than 2^62 steps and words, numbers of their kinds.
  The program's memory: what the call of CAS does; condition: the table of rooms reads as the program lays it; the memory lies as it says, fewer than 2^62 steps and words, numbers of their kinds.
-/
import Derived.Test.YtapcgikamldchaaDoorP1
namespace Go.Proofs.YtapcgikamldchaaDoor
open Go.RowKit Go.Maps

theorem alloc_blk (w : World) (o : Obj) : (w.alloc o).heap[w.heap.size]? = some o := by
  show (w.heap.push o)[w.heap.size]? = _
  simp
theorem new_prog (w : World) : Calls Tryd.prog 21 #[] w fun e w' => e = .returned (.pointer (some ⟨w.heap.size + 1, 0, none⟩)) ∧ PM (w.heap.size + 1) w.heap.size 0 (.map []) 0 0 0 0 0 0 0 false w' ∧ Below w.heap.size w w' := by
  have hmm := @run_makeMap Tryd.prog
  go_enter Tryd.func21, Tryd.ntmps21
  go_wp2
  go_ret
  refine ⟨rfl, ⟨?_, (World.ownsMap_made w Tryd.prog 42 (plainElem Tryd.prog 34)).alloc _⟩, ((Below.refl _ _).alloc (Nat.le_refl _) _).alloc (by simp) _⟩
  have := alloc_blk (w.alloc (.map #[] 0)) (.cells #[.map (some w.heap.size), .int .i64 0, .int .u8 0, .int .u8 0, .int .i64 0, .int .i64 0, .int .u64 0, .int .u64 0, .bool false] 90)
  rwa [World.size_alloc] at this

theorem steps_nil (w : World) : Calls Tryd.prog 19 #[.pointer none] w fun e w' => e = .returned (.int .i64 0) ∧ w = w' := by
  go_enter Tryd.func19, Tryd.ntmps19
  go_wp2_with (go_at_call 33; refine (made_nil _).mono ?_; rintro e w' ⟨rfl, rfl⟩)
  go_ret
  exact ⟨rfl, rfl⟩
theorem steps_void (p : Nat) (w : World) (hp : w.cell? ⟨p, 0, none⟩ = some (.map none)) : Calls Tryd.prog 19 #[.pointer (some ⟨p, 0, none⟩)] w fun e w' => e = .returned (.int .i64 0) ∧ w = w' := by
  go_enter Tryd.func19, Tryd.ntmps19
  go_wp2_with (go_at_call 33; refine (made_void p _ hp).mono ?_; rintro e w' ⟨rfl, rfl⟩)
  go_ret
  exact ⟨rfl, rfl⟩
theorem steps_prog (p b n : Nat) (D : DataW Unit) (st ak k a f was is : Int) (done : Bool) (w : World) (h : PM p b n D st ak k a f was is done w) :
    Calls Tryd.prog 19 #[.pointer (some ⟨p, 0, none⟩)] w fun e w' => e = .returned (.int .i64 st) ∧ w = w' := by
  have c0 : w.cell? ⟨p, 0, none⟩ = some (.map (some b)) := h.cell 0
  have c1 : w.cell? ⟨p, 1, none⟩ = some (.int .i64 st) := h.cell 1
  clear h
  go_enter Tryd.func19, Tryd.ntmps19
  go_wp2_with (go_at_call 33; refine (made_yes p b _ c0).mono ?_; rintro e w' ⟨rfl, rfl⟩)
  go_ret
  exact ⟨rfl, rfl⟩

def accV (ak k a f was is : Int) (done : Bool) : Value := .agg #[.int .u8 ak, .int .u8 k, .int .i64 a, .int .i64 f, .int .u64 was, .int .u64 is, .bool done]
theorem last_nil (w : World) : Calls Tryd.prog 31 #[.pointer none] w fun e w' => e = .returned (accV 0 0 0 0 0 0 false) ∧ Below w.heap.size w w' := by
  unfold accV
  go_enter Tryd.func31, Tryd.ntmps31
  go_wp2_with (go_at_call 33; refine (made_nil _).mono ?_; rintro e w' ⟨rfl, rfl⟩)
  exact bodyPost_ret (v := .agg #[.int .u8 0, .int .u8 0, .int .i64 0, .int .i64 0, .int .u64 0, .int .u64 0, .bool false]) (by simp [results, Tryd.results31, go_sem]) rfl ⟨rfl, (Below.refl _ _).alloc (Nat.le_refl _) _⟩
theorem last_void (p : Nat) (w : World) (hp : w.cell? ⟨p, 0, none⟩ = some (.map none)) : Calls Tryd.prog 31 #[.pointer (some ⟨p, 0, none⟩)] w fun e w' => e = .returned (accV 0 0 0 0 0 0 false) ∧ Below w.heap.size w w' := by
  have hlt : p < w.heap.size := World.block_lt_of_cell? w _ hp
  have hp' : (w.alloc (.cells #[.int .u8 0, .int .u8 0, .int .i64 0, .int .i64 0, .int .u64 0, .int .u64 0, .bool false] 78)).cell? ⟨p, 0, none⟩ = some (.map none) := (((Below.refl _ w).alloc (Nat.le_refl _) _).cell (p := ⟨p, 0, none⟩) hlt).trans hp
  unfold accV
  go_enter Tryd.func31, Tryd.ntmps31
  go_wp2_with (go_at_call 33; refine (made_void p _ hp').mono ?_; rintro e w' ⟨rfl, rfl⟩)
  exact bodyPost_ret (v := .agg #[.int .u8 0, .int .u8 0, .int .i64 0, .int .i64 0, .int .u64 0, .int .u64 0, .bool false]) (by simp [results, Tryd.results31, go_sem]) rfl ⟨rfl, (Below.refl _ _).alloc (Nat.le_refl _) _⟩
theorem last_prog (p b n : Nat) (D : DataW Unit) (st ak k a f was is : Int) (done : Bool) (w : World) (h : PM p b n D st ak k a f was is done w) :
    Calls Tryd.prog 31 #[.pointer (some ⟨p, 0, none⟩)] w fun e w' => e = .returned (accV ak k a f was is done) ∧ Below w.heap.size w w' := by
  have hb := h.below ((Below.refl _ w).alloc (Nat.le_refl _) (.cells #[.int .u8 0, .int .u8 0, .int .i64 0, .int .i64 0, .int .u64 0, .int .u64 0, .bool false] 78))
  have hlt := h.lt
  have c0 : (w.alloc (.cells #[.int .u8 0, .int .u8 0, .int .i64 0, .int .i64 0, .int .u64 0, .int .u64 0, .bool false] 78)).cell? ⟨p, 0, none⟩ = some (.map (some b)) := hb.cell 0
  have y2 : (w.alloc (.cells #[.int .u8 0, .int .u8 0, .int .i64 0, .int .i64 0, .int .u64 0, .int .u64 0, .bool false] 78)).cell? ⟨p, 2, none⟩ = some (.int .u8 ak) := hb.cell 2
  have y3 : (w.alloc (.cells #[.int .u8 0, .int .u8 0, .int .i64 0, .int .i64 0, .int .u64 0, .int .u64 0, .bool false] 78)).cell? ⟨p, 3, none⟩ = some (.int .u8 k) := hb.cell 3
  have y4 : (w.alloc (.cells #[.int .u8 0, .int .u8 0, .int .i64 0, .int .i64 0, .int .u64 0, .int .u64 0, .bool false] 78)).cell? ⟨p, 4, none⟩ = some (.int .i64 a) := hb.cell 4
  have y5 : (w.alloc (.cells #[.int .u8 0, .int .u8 0, .int .i64 0, .int .i64 0, .int .u64 0, .int .u64 0, .bool false] 78)).cell? ⟨p, 5, none⟩ = some (.int .i64 f) := hb.cell 5
  have y6 : (w.alloc (.cells #[.int .u8 0, .int .u8 0, .int .i64 0, .int .i64 0, .int .u64 0, .int .u64 0, .bool false] 78)).cell? ⟨p, 6, none⟩ = some (.int .u64 was) := hb.cell 6
  have y7 : (w.alloc (.cells #[.int .u8 0, .int .u8 0, .int .i64 0, .int .i64 0, .int .u64 0, .int .u64 0, .bool false] 78)).cell? ⟨p, 7, none⟩ = some (.int .u64 is) := hb.cell 7
  have y8 : (w.alloc (.cells #[.int .u8 0, .int .u8 0, .int .i64 0, .int .i64 0, .int .u64 0, .int .u64 0, .bool false] 78)).cell? ⟨p, 8, none⟩ = some (.bool done) := hb.cell 8
  clear h hb
  unfold accV
  go_enter Tryd.func31, Tryd.ntmps31
  go_wp2_with (go_at_call 33; refine (made_yes p b _ c0).mono ?_; rintro e w' ⟨rfl, rfl⟩)
  exact bodyPost_ret (v := .agg #[.int .u8 ak, .int .u8 k, .int .i64 a, .int .i64 f, .int .u64 was, .int .u64 is, .bool done]) (by simp [results, Tryd.results31, go_sem]) rfl ⟨rfl, (Below.refl _ _).alloc (Nat.le_refl _) _⟩

def boxA (x : Ad) : Obj := .cells #[.int .u8 x.k, .int .i64 x.a, .int .i64 x.f] 42
theorem box_cells (w : World) (x : Ad) : (w.alloc (boxA x)).drew.cell? ⟨w.heap.size, 0, none⟩ = some (.int .u8 x.k) ∧ (w.alloc (boxA x)).drew.cell? ⟨w.heap.size, 1, none⟩ = some (.int .i64 x.a) ∧ (w.alloc (boxA x)).drew.cell? ⟨w.heap.size, 2, none⟩ = some (.int .i64 x.f) := by
  unfold boxA
  refine ⟨?_, ?_, ?_⟩ <;> simp [go_sem]
theorem box_below (w : World) (x : Ad) : Below w.heap.size w (w.alloc (boxA x)) := (Below.refl _ _).alloc (Nat.le_refl _) _

theorem load_nil (x : Ad) (w : World) : Calls Tryd.prog 38 #[.pointer none, x.v] w fun e w' => e = .returned (.int .u64 0) ∧ Below w.heap.size w w' := by
  simp only [Ad.v, addrV]
  go_enter Tryd.func38, Tryd.ntmps38
  go_wp2_with (go_at_call 33; refine (made_nil _).mono ?_; rintro e w' ⟨rfl, rfl⟩)
  go_ret
  exact ⟨rfl, (Below.refl _ _).alloc (Nat.le_refl _) _⟩
theorem load_void (p : Nat) (x : Ad) (w : World) (hp : w.cell? ⟨p, 0, none⟩ = some (.map none)) : Calls Tryd.prog 38 #[.pointer (some ⟨p, 0, none⟩), x.v] w fun e w' => e = .returned (.int .u64 0) ∧ Below w.heap.size w w' := by
  have hp' := ((box_below w x).cell (p := ⟨p, 0, none⟩) (World.block_lt_of_cell? w _ hp)).trans hp
  unfold boxA at hp'
  simp only [Ad.v, addrV]
  go_enter Tryd.func38, Tryd.ntmps38
  go_wp2_with (go_at_call 33; refine (made_void p _ hp').mono ?_; rintro e w' ⟨rfl, rfl⟩)
  go_ret
  exact ⟨rfl, (Below.refl _ _).alloc (Nat.le_refl _) _⟩
theorem store_nil (x : Ad) (v : Int) (w : World) : Calls Tryd.prog 25 #[.pointer none, x.v, .int .u64 v] w fun e w' => e = .returned (.tuple #[]) ∧ Below w.heap.size w w' := by
  simp only [Ad.v, addrV]
  go_enter Tryd.func25, Tryd.ntmps25
  go_wp2_with (go_at_call 33; refine (made_nil _).mono ?_; rintro e w' ⟨rfl, rfl⟩)
  exact bodyPost_ret (results_none rfl _ _ _) rfl ⟨rfl, (Below.refl _ _).alloc (Nat.le_refl _) _⟩
theorem store_void (p : Nat) (x : Ad) (v : Int) (w : World) (hp : w.cell? ⟨p, 0, none⟩ = some (.map none)) : Calls Tryd.prog 25 #[.pointer (some ⟨p, 0, none⟩), x.v, .int .u64 v] w fun e w' => e = .returned (.tuple #[]) ∧ Below w.heap.size w w' := by
  have hp' := ((box_below w x).cell (p := ⟨p, 0, none⟩) (World.block_lt_of_cell? w _ hp)).trans hp
  unfold boxA at hp'
  simp only [Ad.v, addrV]
  go_enter Tryd.func25, Tryd.ntmps25
  go_wp2_with (go_at_call 33; refine (made_void p _ hp').mono ?_; rintro e w' ⟨rfl, rfl⟩)
  exact bodyPost_ret (results_none rfl _ _ _) rfl ⟨rfl, (Below.refl _ _).alloc (Nat.le_refl _) _⟩
set_option maxRecDepth 100000 in
set_option maxHeartbeats 2000000 in
theorem load_prog (p b n : Nat) (D : DataW Unit) (st ak k a f was is : Int) (done : Bool) (x : Ad) (hs0 : 0 ≤ st) (hs1 : st < 4611686018427387904) (w : World) (h : PM p b n D st ak k a f was is done w) :
    Calls Tryd.prog 38 #[.pointer (some ⟨p, 0, none⟩), x.v] w fun e w' => e = .returned (.int .u64 (valD D x)) ∧ PM p b n D (st + 1) 1 x.k x.a x.f (valD D x) (valD D x) false w' ∧ Only p b w w' := by
  have HP := Lib.hid (h.below (box_below w x).drew)
  have HO := Lib.hid (Only.of_below (p := p) (b := b) (box_below w x).drew)
  obtain ⟨d0, d1, d2⟩ := box_cells w x
  have c0 : (w.alloc (boxA x)).cell? ⟨p, 0, none⟩ = some (.map (some b)) := HP.out.cell 0
  unfold boxA at c0
  clear h
  simp only [Ad.v, addrV]
  go_enter Tryd.func38, Tryd.ntmps38
  go_wp2_with (go_at_call 33; refine (made_yes p b _ c0).mono ?_; rintro e w' ⟨rfl, rfl⟩)
  refine wp_region_still_tail 6 (by kernel_rfl) (by kernel_rfl) ?_
  change wpStill _ _ (w.alloc (boxA x)).drew (fun a' => wpList _ _ _ _ a' (w.alloc (boxA x)).drew) _ _
  clear c0
  revert HP HO d0 d1 d2
  generalize (w.alloc (boxA x)).drew = wd
  intro HP HO d0 d1 d2
  have pc : wd.cell? ⟨p, 0, none⟩ = some (.map (some b)) := HP.out.cell 0
  have hrun := (HP.out.lookup x).1
  have hcnt := count_prog p b n D st ak k a f was is done 1 x (valD D x) false hs0 hs1 wd HP.out
  simp only [Ad.v, addrV] at hrun hcnt
  obtain ⟨c, hc⟩ : ∃ c, valD D x = c := ⟨_, rfl⟩
  rw [hc] at hrun hcnt
  have HC := Lib.hid hc
  clear hc
  simp only [List.take_succ_cons, List.take_zero, List.drop_succ_cons, List.drop_zero]
  iterate 6 still_step
  refine wpStill_nil ?_
  go_wp2_with (go_at_call 37; refine hcnt.mono ?_; rintro e w1 ⟨rfl, hp1, ho1⟩; have HP1 := Lib.hid hp1; have HO1 := Lib.hid ho1; clear hp1 ho1 hcnt)
  go_ret
  rw [HC.out]
  exact ⟨rfl, HP1.out, HO.out.trans HO1.out⟩

/-- What a Store makes of the words. -/
def storeD (D : DataW Unit) (x : Ad) (v : Int) : DataW Unit := if mayB x.k x.a x.f = true then putD D x v else D
set_option maxRecDepth 100000 in
set_option maxHeartbeats 4000000 in
theorem store_prog (p b n : Nat) (D : DataW Unit) (st ak k a f was is : Int) (done : Bool) (x : Ad) (v : Int) (hv : (Lit.int .u64 v).wf = true) (hs0 : 0 ≤ st) (hs1 : st < 4611686018427387904) (hn : n < 4611686018427387904) (w : World) (hl : LayM w) (h : PM p b n D st ak k a f was is done w) :
    Calls Tryd.prog 25 #[.pointer (some ⟨p, 0, none⟩), x.v, .int .u64 v] w fun e w' => e = .returned (.tuple #[]) ∧ PM p b (n + 1) (storeD D x v) (st + 1) 2 x.k x.a x.f (valD D x) (valD (storeD D x v) x) false w' ∧ Only p b w w' := by
  have hbx := (box_below w x).drew
  have HP := Lib.hid (h.below hbx)
  have HO := Lib.hid (Only.of_below (p := p) (b := b) hbx)
  have HL := Lib.hid (hl.below hbx)
  have hww : w.heap.size < (w.alloc (boxA x)).drew.heap.size := by simp [boxA, World.drew]
  have hpw := h.lt
  have hbw := h.own.lt
  obtain ⟨d0, d1, d2⟩ := box_cells w x
  have c0 : (w.alloc (boxA x)).cell? ⟨p, 0, none⟩ = some (.map (some b)) := HP.out.cell 0
  unfold boxA at c0
  clear h hl hbx
  simp only [Ad.v, addrV]
  go_enter Tryd.func25, Tryd.ntmps25
  go_wp2_with (go_at_call 33; refine (made_yes p b _ c0).mono ?_; rintro e w' ⟨rfl, rfl⟩)
  refine wp_region_still_tail 6 (by kernel_rfl) (by kernel_rfl) ?_
  change wpStill _ _ (w.alloc (boxA x)).drew (fun a' => wpList _ _ _ _ a' (w.alloc (boxA x)).drew) _ _
  clear c0
  revert HP HO HL hww d0 d1 d2
  generalize (w.alloc (boxA x)).drew = wd
  intro HP HO HL hww d0 d1 d2
  have pc : wd.cell? ⟨p, 0, none⟩ = some (.map (some b)) := HP.out.cell 0
  have hrun := (HP.out.lookup x).1
  have hmay := may_prog x wd HL.out
  simp only [Ad.v, addrV] at hrun hmay
  obtain ⟨c, hc⟩ : ∃ c, valD D x = c := ⟨_, rfl⟩
  rw [hc] at hrun
  have HC := Lib.hid hc
  clear hc
  simp only [List.take_succ_cons, List.take_zero, List.drop_succ_cons, List.drop_zero]
  iterate 6 still_step
  refine wpStill_nil ?_
  by_cases hm : mayB x.k x.a x.f = true
  · rw [hm] at hmay
    have HE := Lib.hid (show storeD D x v = putD D x v from if_pos hm)
    clear hm
    go_wp2_with (first | (go_at_call 35; refine hmay.mono ?_; rintro e w1 ⟨rfl, hb1⟩; have HB1 := Lib.hid hb1; have hw1 : w.heap.size < w1.heap.size := Nat.lt_of_lt_of_le hww hb1.size; have g0 := (hb1.cell (p := ⟨w.heap.size, 0, none⟩) hww).trans d0; have g1 := (hb1.cell (p := ⟨w.heap.size, 1, none⟩) hww).trans d1; have g2 := (hb1.cell (p := ⟨w.heap.size, 2, none⟩) hww).trans d2; clear hb1 hmay; have HP1 := Lib.hid (HP.out.below HB1.out); have hput := put_prog p b n D st ak k a f was is done x v hv hn w1 HP1.out; simp only [Ad.v, addrV] at hput) | (go_at_call 36; refine hput.mono ?_; rintro e w2 ⟨rfl, hp2, ho2⟩; have HP2 := Lib.hid hp2; have HO2 := Lib.hid ho2; have hbk := ho2.block w.heap.size hw1 (by omega) (by omega); have k0 := (World.cell?_of_block (a := ⟨w.heap.size, 0, none⟩) hbk).trans g0; have k1 := (World.cell?_of_block (a := ⟨w.heap.size, 1, none⟩) hbk).trans g1; have k2 := (World.cell?_of_block (a := ⟨w.heap.size, 2, none⟩) hbk).trans g2; clear hp2 ho2 hbk hput; have hcnt := count_prog p b (n + 1) (putD D x v) st ak k a f was is done 2 x c false hs0 hs1 w2 HP2.out; simp only [Ad.v, addrV] at hcnt) | (go_at_call 37; refine hcnt.mono ?_; rintro e w3 ⟨rfl, hp3, ho3⟩; have HP3 := Lib.hid hp3; have HO3 := Lib.hid ho3; clear hp3 ho3 hcnt))
    go_end0
    rw [HE.out, HC.out]
    exact ⟨rfl, HP3.out, HO.out.trans ((Only.of_below HB1.out).trans (HO2.out.trans HO3.out))⟩
  · have hm' : mayB x.k x.a x.f = false := by simpa using hm
    rw [hm'] at hmay
    have HE := Lib.hid (show storeD D x v = D from if_neg hm)
    clear hm hm'
    go_wp2_with (first | (go_at_call 35; refine hmay.mono ?_; rintro e w1 ⟨rfl, hb1⟩; have HB1 := Lib.hid hb1; have hw1 : w.heap.size < w1.heap.size := Nat.lt_of_lt_of_le hww hb1.size; have g0 := (hb1.cell (p := ⟨w.heap.size, 0, none⟩) hww).trans d0; have g1 := (hb1.cell (p := ⟨w.heap.size, 1, none⟩) hww).trans d1; have g2 := (hb1.cell (p := ⟨w.heap.size, 2, none⟩) hww).trans d2; clear hb1 hmay; have HP1 := Lib.hid (HP.out.below HB1.out); have hcnt := count_prog p b n D st ak k a f was is done 2 x c false hs0 hs1 w1 HP1.out; simp only [Ad.v, addrV] at hcnt) | (go_at_call 37; refine hcnt.mono ?_; rintro e w3 ⟨rfl, hp3, ho3⟩; have HP3 := Lib.hid hp3; have HO3 := Lib.hid ho3; clear hp3 ho3 hcnt))
    go_end0
    rw [HE.out, HC.out]
    have h3 := HP3.out
    rw [HC.out] at h3
    exact ⟨rfl, ⟨h3.blk, h3.own.mono (Nat.le_succ n)⟩, HO.out.trans ((Only.of_below HB1.out).trans HO3.out)⟩
end Go.Proofs.YtapcgikamldchaaDoor
namespace Go.Proofs.YtapcgikamldchaaDoor
open Go.RowKit Go.Maps

/-- Does a CAS? -/
def casB (D : DataW Unit) (x : Ad) (u : Int) : Bool := mayB x.k x.a x.f && decide (valD D x = u)
/-- What a CAS makes of the words. -/
def casD (D : DataW Unit) (x : Ad) (u v : Int) : DataW Unit := if casB D x u = true then putD D x v else D
end Go.Proofs.YtapcgikamldchaaDoor
