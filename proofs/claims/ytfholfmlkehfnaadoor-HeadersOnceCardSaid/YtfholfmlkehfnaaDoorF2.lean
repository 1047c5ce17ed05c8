/-
  The program's read and May of layer 5: a word as a header, and whether it may be; conditions: the table of fields reads as the program lays it; the arguments are numbers of their kinds.
-/
import Derived.Test.YtfholfmlkehfnaaDoorT1
import Derived.Deep.RegionHeld3
namespace Go.Proofs.YtfholfmlkehfnaaDoor
open Go.RowKit

/-- What a word says as a header. -/
def sOf (x : Int) : Int := stS (x % 8)
def gOf (x : Int) : Int := x / 8 % 4294967296
theorem may_read {x most : Int} (hx : U64 x) (hm' : U32 most) : mayH x most = (headerW (sOf x) (gOf x) == x && hm (sOf x) (gOf x) most) := by
  unfold U64 at hx
  unfold U32 at hm'
  have h0 : 0 ≤ sOf x ∧ sOf x ≤ 4 := by unfold sOf stS; split <;> omega
  rw [headerW_hw h0.1 h0.2 (by unfold gOf U32; omega)]
  rw [Bool.eq_iff_iff]
  simp only [mayH, hm, hw, Bool.and_eq_true, decide_eq_true_eq, beq_iff_eq]
  unfold sOf gOf stS
  split <;> omega
theorem step_store_put {m : Nat} {P : Program} {o : Oper} {a : Act} {w : World} {K : Act → World → Prop} {Q : Exit → Act → World → Prop} (_ : o.guard = none) (ty : TypeId) (x y : Operand) (ho : o.op = .store ty x y)
    (g : Nat) (hx : a.eval x = .pointer (some ⟨g, 0, none⟩)) (c' : Array Value) (hy : a.eval y = .agg c') (t : TypeId) (c : Array Value) (hg : w.heap[g]? = some (.cells c t (0, 0))) (hi : (P.info? ty).map (·.size) = some c'.size) (hs : c.size = c'.size) (h1 : c'.toList.all (·.oneCell') = true)
    (h : ∀ w', Put w w' g t c' → K (a.put o.dst undef) w') : o.wpIn Fence.wide m P a w K Q := by
  refine ⟨fun _ _ => trivial, ?_⟩
  rw [show Fence.wide.round = none from rfl, Oper.semAt_none]
  unfold execOp
  simp only [ho, hx, hy, Instr.storeAt, Instr.sureAddr, Sem.run_bind, Sem.run_pure, Result.andThen_ok, run_storeVar_row w g t ty c c' hg hi hs (by rw [← Array.all_toList]; exact h1)]
  exact h _ (put_setRow hg c')
/-- What stands while a word is read: the header in block q, the result's block p. -/
def RdS (w0 : World) (q p : Nat) (s g : Int) (w : World) : Prop :=
  (w.cell? ⟨q, 0, none⟩ = some (.int .u8 s) ∧ w.cell? ⟨q, 1, none⟩ = some (.int .u64 g)) ∧ Hid (Below w0.heap.size w0 w ∧ w0.heap.size ≤ p ∧ p < q ∧ q < w.heap.size ∧ ∃ c : Array Value, c.size = 2 ∧ w.heap[p]? = some (.cells c 48 (0, 0)))
theorem RdS.drew {w0 : World} {q p : Nat} {s g : Int} {w : World} (h : RdS w0 q p s g w) : RdS w0 q p s g w.drew := ⟨h.1, Lib.hid ⟨h.2.out.1.drew, h.2.out.2⟩⟩
theorem RdS.grown {w0 : World} {q p : Nat} {s g : Int} {w w' : World} (h : RdS w0 q p s g w) (hb : Below w.heap.size w w') : RdS w0 q p s g w' := by
  obtain ⟨⟨c0, c1⟩, hh⟩ := h
  obtain ⟨h1, h2, h3, h4, c, h5, h6⟩ := hh.out
  exact ⟨⟨(hb.cell (p := ⟨q, 0, none⟩) h4).trans c0, (hb.cell (p := ⟨q, 1, none⟩) h4).trans c1⟩, Lib.hid ⟨h1.trans (hb.mono h1.size), h2, h3, Nat.lt_of_lt_of_le h4 hb.size, c, h5, (hb.block p (by omega)).trans h6⟩⟩
theorem RdS.put {w0 : World} {q p : Nat} {s g : Int} {w w' : World} {c : Array Value} (h : RdS w0 q p s g w) (hc : c.size = 2) (hb : Put w w' p 48 c) : RdS w0 q p s g w' := by
  obtain ⟨⟨c0, c1⟩, hh⟩ := h
  obtain ⟨h1, h2, h3, h4, _⟩ := hh.out
  have hq : w'.heap[q]? = w.heap[q]? := hb.far q (by omega)
  exact ⟨⟨(World.cell?_of_block (a := ⟨q, 0, none⟩) hq).trans c0, (World.cell?_of_block (a := ⟨q, 1, none⟩) hq).trans c1⟩, Lib.hid ⟨hb.below h1 h2, h2, h3, by rw [hb.size]; exact h4, c, hc, hb.at_⟩⟩
theorem RdS.res {w0 : World} {q p : Nat} {s g : Int} {w : World} (h : RdS w0 q p s g w) : ∃ c : Array Value, c.size = 2 ∧ w.heap[p]? = some (.cells c 48 (0, 0)) := h.2.out.2.2.2.2
theorem RdS.lay {w0 : World} {q p : Nat} {s g : Int} {w : World} (h : RdS w0 q p s g w) (hl : Lay w0) : Lay w := hl.below h.2.out.1
set_option maxRecDepth 100000 in
set_option maxHeartbeats 4000000 in
theorem read_any (x most : Int) (w : World) (hL : Lay w) (hx : U64 x) (hm' : U32 most) : Calls Tryd.prog 19 #[.int .u64 x, .int .u32 most] w fun e w' => e = .returned (.tuple #[hV (sOf x) (gOf x), .bool (mayH x most)]) ∧ Below w.heap.size w w' := by
  have HA := Lib.hid (fun W (h : Lay W) => asHeader_any x W h hx)
  rw [fld_s, fld_g] at HA
  rw [show stS (x % 8) = sOf x from rfl, show x / 8 % 4294967296 = gOf x from rfl] at HA
  have hg : U32 (gOf x) := by unfold gOf U32; omega
  have hs : 0 ≤ sOf x := by unfold sOf stS; split <;> (unfold U64 at hx; omega)
  have HH := Lib.hid (fun W (h : Lay W) => header_any (sOf x) (gOf x) W h hs (by unfold U32 at hg; unfold U64; omega))
  have HM := Lib.hid (fun W => hmay_any (sOf x) (gOf x) most W hm')
  have HR := Lib.hid (may_read hx hm')
  have e1 : IntKind.u64.wrap (gOf x) = gOf x := wrap_of_u64 _ (by unfold U32 at hg; unfold U64; omega)
  have H := Lib.hid hL
  clear hL hx hm' hg hs
  generalize sOf x = s at *
  generalize gOf x = g at *
  generalize headerW s g = h at *
  generalize hm s g most = b at *
  go_enter Tryd.func19, Tryd.ntmps19
  go_wp2_with (go_at_call 18; refine (HA.out _ (H.out.alloc _)).mono ?_; rintro e w1 ⟨rfl, n, rfl⟩)
  have hS0 : RdS w (w.heap.size + 1) w.heap.size s g (((w.alloc (.cells #[.int .u8 0, .int .u64 0] 48)).drewN n).alloc (.cells #[.int .u8 s, .int .u64 g] 48)) := by
    refine ⟨⟨by simp [go_sem], by simp [go_sem]⟩, Lib.hid ⟨(below_drewN' ((Below.refl _ _).alloc (Nat.le_refl _) _) n).alloc (by simp) _, Nat.le_refl _, by omega, by simp, #[.int .u8 0, .int .u64 0], rfl, ?_⟩⟩
    exact (Below.heap_alloc _ _ _ (by simp)).trans (heap_alloc_new w (.cells #[.int .u8 0, .int .u64 0] 48))
  revert hS0
  generalize (((w.alloc (.cells #[.int .u8 0, .int .u64 0] 48)).drewN n).alloc (.cells #[.int .u8 s, .int .u64 g] 48)) = W0
  intro hS0
  clear HA
  by_cases hh : h = x
  · subst hh
    have hmb : mayH h most = b := by rw [HR.out]; simp
    have HMB := Lib.hid hmb
    clear hmb HR
    refine wpIn_wide (n := 3).1 ?_
    refine region_S (S := RdS w (w.heap.size + 1) w.heap.size s g) (by kernel_rfl) ?_
    have hHeld := hS0.drew
    refine anyS_take (i := 0) (o := { dst := some 18, op := _, type := _, pos := _, after := _, guard := _ }) (v := ?_) rfl (by kernel_rfl) (by kernel_rfl) (by kernel_rfl) (fun _ _ _ h => h) (Or.inl ⟨by rfl, ?_⟩) hHeld ?_
    rotate_left
    · intro w1 hS
      obtain ⟨⟨y0, y1⟩, _⟩ := hS
      go_simp
      (try with_reducible rfl)
    (try simp only [Act.put, List.setIfInBounds_toArray, List.set_cons_zero, List.set_cons_succ])
    refine anyS_take (i := 1) (o := { dst := some 19, op := _, type := _, pos := _, after := _, guard := _ }) (v := ?_) rfl (by kernel_rfl) (by kernel_rfl) (by kernel_rfl) (fun _ _ _ h => h) (Or.inl ⟨by rfl, ?_⟩) hHeld ?_
    rotate_left
    · intro w1 hS
      skip
      go_simp
      (try with_reducible rfl)
    (try simp only [Act.put, List.setIfInBounds_toArray, List.set_cons_zero, List.set_cons_succ])
    refine anyS_take (i := 2) (o := { dst := some 20, op := _, type := _, pos := _, after := _, guard := _ }) (v := ?_) rfl (by kernel_rfl) (by kernel_rfl) (by kernel_rfl) (fun _ _ _ h => h) (Or.inl ⟨by rfl, ?_⟩) hHeld ?_
    rotate_left
    · intro w1 hS
      skip
      go_simp
      (try with_reducible rfl)
    (try simp only [Act.put, List.setIfInBounds_toArray, List.set_cons_zero, List.set_cons_succ])
    refine anyS_take (i := 4) (o := { dst := some 22, op := _, type := _, pos := _, after := _, guard := _ }) (v := ?_) rfl (by kernel_rfl) (by kernel_rfl) (by kernel_rfl) (fun _ _ _ h => h) (Or.inl ⟨by rfl, ?_⟩) hHeld ?_
    rotate_left
    · intro w1 hS
      skip
      go_simp
      (try with_reducible rfl)
    (try simp only [Act.put, List.setIfInBounds_toArray, List.set_cons_zero, List.set_cons_succ])
    refine anyS_next (i := 3) (o := { dst := some 21, op := _, type := _, pos := _, after := _, guard := _ }) rfl (by kernel_rfl) (by rfl) (fun K hK => ?_)
    refine ⟨fun _ _ => trivial, ?_⟩
    rw [show Fence.wide.round = none from rfl, Oper.semAt_none]
    go_simp
    refine (callsIn_wide.2 (HH.out _ (hHeld.lay H.out))).mono ?_
    rintro e w2 ⟨rfl, hn2⟩
    refine hK.out _ _ (by obtain ⟨n2, rfl⟩ := hn2; exact hHeld.grown (below_drewN' (Below.refl _ _) _)) (fun hHeld2 => ?_)
    clear hK K hHeld
    have hHeld := hHeld2
    clear hHeld2
    clear hn2
    (try simp only [Act.put, List.setIfInBounds_toArray, List.set_cons_zero, List.set_cons_succ])
    refine anyS_take (i := 5) (o := { dst := some 23, op := _, type := _, pos := _, after := _, guard := _ }) (v := ?_) rfl (by kernel_rfl) (by kernel_rfl) (by kernel_rfl) (fun _ _ _ h => h) (Or.inl ⟨by rfl, ?_⟩) hHeld ?_
    rotate_left
    · intro w1 hS
      skip
      go_simp
      (try with_reducible rfl)
    (try simp only [Act.put, List.setIfInBounds_toArray, List.set_cons_zero, List.set_cons_succ])
    refine anyS_take (i := 6) (o := { dst := some 24, op := _, type := _, pos := _, after := _, guard := _ }) (v := ?_) rfl (by kernel_rfl) (by kernel_rfl) (by kernel_rfl) (fun _ _ _ h => h) (Or.inl ⟨by rfl, ?_⟩) hHeld ?_
    rotate_left
    · intro w1 hS
      skip
      go_simp
      (try with_reducible rfl)
    (try simp only [Act.put, List.setIfInBounds_toArray, List.set_cons_zero, List.set_cons_succ])
    refine anyS_take (i := 7) (o := { dst := some 25, op := _, type := _, pos := _, after := _, guard := _ }) (v := ?_) rfl (by kernel_rfl) (by kernel_rfl) (by kernel_rfl) (fun _ _ _ h => h) (Or.inl ⟨by rfl, ?_⟩) hHeld ?_
    rotate_left
    · intro w1 hS
      obtain ⟨⟨y0, y1⟩, _⟩ := hS
      go_simp
      (try with_reducible rfl)
    (try simp only [Act.put, List.setIfInBounds_toArray, List.set_cons_zero, List.set_cons_succ])
    refine anyS_take (i := 8) (o := { dst := some 26, op := _, type := _, pos := _, after := _, guard := _ }) (v := ?_) rfl (by kernel_rfl) (by kernel_rfl) (by kernel_rfl) (fun _ _ _ h => h) (Or.inl ⟨by rfl, ?_⟩) hHeld ?_
    rotate_left
    · intro w1 hS
      skip
      go_simp
      (try with_reducible rfl)
    (try simp only [Act.put, List.setIfInBounds_toArray, List.set_cons_zero, List.set_cons_succ])
    refine anyS_next (i := 9) (o := { dst := some 27, op := _, type := _, pos := _, after := _, guard := _ }) rfl (by kernel_rfl) (by rfl) (fun K hK => ?_)
    refine ⟨fun _ _ => trivial, ?_⟩
    rw [show Fence.wide.round = none from rfl, Oper.semAt_none]
    go_simp
    refine (callsIn_wide.2 (HM.out _)).mono ?_
    rintro e w3 ⟨rfl, hb3⟩
    refine hK.out _ _ (hHeld.grown hb3) (fun hHeld2 => ?_)
    clear hK K hHeld
    have hHeld := hHeld2
    clear hHeld2
    (try simp only [Act.put, List.setIfInBounds_toArray, List.set_cons_zero, List.set_cons_succ])
    refine anyS_take (i := 10) (o := { dst := some 28, op := _, type := _, pos := _, after := _, guard := _ }) (v := ?_) rfl (by kernel_rfl) (by kernel_rfl) (by kernel_rfl) (fun _ _ _ h => h) (Or.inl ⟨by rfl, ?_⟩) hHeld ?_
    rotate_left
    · intro w1 hS
      skip
      go_simp
      (try with_reducible rfl)
    (try simp only [Act.put, List.setIfInBounds_toArray, List.set_cons_zero, List.set_cons_succ])
    obtain ⟨c, hc2, hcp⟩ := hHeld.res
    refine anyS_next (i := 11) (o := { dst := none, op := _, type := _, pos := _, after := _, guard := _ }) rfl (by kernel_rfl) (by rfl) (fun K hK => ?_)
    refine step_store_put rfl 48 (.tmp 4) (.tmp 18) rfl w.heap.size rfl #[.int .u8 s, .int .u64 g] rfl 48 c hcp isz48 hc2 rfl ?_
    intro w4 hp4
    refine hK.out _ _ (hHeld.put rfl hp4) (fun hHeld2 => ?_)
    clear hK K hHeld
    have hHeld := hHeld2
    clear hHeld2
    (try simp only [Act.put])
    refine anyS_take (i := 12) (o := { dst := some 5, op := _, type := _, pos := _, after := _, guard := _ }) (v := ?_) rfl (by kernel_rfl) (by kernel_rfl) (by kernel_rfl) (fun _ _ _ h => h) (Or.inl ⟨by rfl, ?_⟩) hHeld ?_
    rotate_left
    · intro w1 hS
      skip
      go_simp
      (try with_reducible rfl)
    (try simp only [Act.put, List.setIfInBounds_toArray, List.set_cons_zero, List.set_cons_succ])
    refine anyS_done (by kernel_rfl) ?_ _
    go_wp2
    exact bodyPost_ret (results_cell_tmp rfl _ _ w.heap.size 48 #[.int .u8 s, .int .u64 g] (0, 0) _ rfl hp4.at_ Tryd.underlying48 rfl isz48) rfl ⟨by rw [HMB.out]; rfl, hHeld.2.out.1⟩
  · have hhx : (h == x) = false := beq_eq_false_iff_ne.2 hh
    have hmb : mayH x most = false := by rw [HR.out, hhx]; rfl
    have HMB := Lib.hid hmb
    clear hmb HR
    refine wpIn_wide (n := 3).1 ?_
    refine region_S (S := RdS w (w.heap.size + 1) w.heap.size s g) (by kernel_rfl) ?_
    have hHeld := hS0.drew
    refine anyS_take (i := 0) (o := { dst := some 18, op := _, type := _, pos := _, after := _, guard := _ }) (v := ?_) rfl (by kernel_rfl) (by kernel_rfl) (by kernel_rfl) (fun _ _ _ h => h) (Or.inl ⟨by rfl, ?_⟩) hHeld ?_
    rotate_left
    · intro w1 hS
      obtain ⟨⟨y0, y1⟩, _⟩ := hS
      go_simp
      (try with_reducible rfl)
    (try simp only [Act.put, List.setIfInBounds_toArray, List.set_cons_zero, List.set_cons_succ])
    refine anyS_take (i := 1) (o := { dst := some 19, op := _, type := _, pos := _, after := _, guard := _ }) (v := ?_) rfl (by kernel_rfl) (by kernel_rfl) (by kernel_rfl) (fun _ _ _ h => h) (Or.inl ⟨by rfl, ?_⟩) hHeld ?_
    rotate_left
    · intro w1 hS
      skip
      go_simp
      (try with_reducible rfl)
    (try simp only [Act.put, List.setIfInBounds_toArray, List.set_cons_zero, List.set_cons_succ])
    refine anyS_take (i := 2) (o := { dst := some 20, op := _, type := _, pos := _, after := _, guard := _ }) (v := ?_) rfl (by kernel_rfl) (by kernel_rfl) (by kernel_rfl) (fun _ _ _ h => h) (Or.inl ⟨by rfl, ?_⟩) hHeld ?_
    rotate_left
    · intro w1 hS
      skip
      go_simp
      (try with_reducible rfl)
    (try simp only [Act.put, List.setIfInBounds_toArray, List.set_cons_zero, List.set_cons_succ])
    refine anyS_take (i := 4) (o := { dst := some 22, op := _, type := _, pos := _, after := _, guard := _ }) (v := ?_) rfl (by kernel_rfl) (by kernel_rfl) (by kernel_rfl) (fun _ _ _ h => h) (Or.inl ⟨by rfl, ?_⟩) hHeld ?_
    rotate_left
    · intro w1 hS
      skip
      go_simp
      (try with_reducible rfl)
    (try simp only [Act.put, List.setIfInBounds_toArray, List.set_cons_zero, List.set_cons_succ])
    refine anyS_next (i := 3) (o := { dst := some 21, op := _, type := _, pos := _, after := _, guard := _ }) rfl (by kernel_rfl) (by rfl) (fun K hK => ?_)
    refine ⟨fun _ _ => trivial, ?_⟩
    rw [show Fence.wide.round = none from rfl, Oper.semAt_none]
    go_simp
    refine (callsIn_wide.2 (HH.out _ (hHeld.lay H.out))).mono ?_
    rintro e w2 ⟨rfl, hn2⟩
    refine hK.out _ _ (by obtain ⟨n2, rfl⟩ := hn2; exact hHeld.grown (below_drewN' (Below.refl _ _) _)) (fun hHeld2 => ?_)
    clear hK K hHeld
    have hHeld := hHeld2
    clear hHeld2
    clear hn2
    (try simp only [Act.put, List.setIfInBounds_toArray, List.set_cons_zero, List.set_cons_succ])
    refine anyS_take (i := 5) (o := { dst := some 23, op := _, type := _, pos := _, after := _, guard := _ }) (v := ?_) rfl (by kernel_rfl) (by kernel_rfl) (by kernel_rfl) (fun _ _ _ h => h) (Or.inl ⟨by rfl, ?_⟩) hHeld ?_
    rotate_left
    · intro w1 hS
      skip
      go_simp
      (try with_reducible rfl)
    (try simp only [Act.put, List.setIfInBounds_toArray, List.set_cons_zero, List.set_cons_succ])
    refine anyS_take (i := 6) (o := { dst := some 24, op := _, type := _, pos := _, after := _, guard := _ }) (v := ?_) rfl (by kernel_rfl) (by kernel_rfl) (by kernel_rfl) (fun _ _ _ h => h) (Or.inl ⟨by rfl, ?_⟩) hHeld ?_
    rotate_left
    · intro w1 hS
      skip
      go_simp
      (try with_reducible rfl)
    (try simp only [Act.put, List.setIfInBounds_toArray, List.set_cons_zero, List.set_cons_succ])
    refine anyS_take (i := 7) (o := { dst := some 25, op := _, type := _, pos := _, after := _, guard := _ }) (v := undef) rfl (by kernel_rfl) (by kernel_rfl) (by kernel_rfl) (fun _ _ _ h => h) (Or.inr ⟨by rfl, rfl⟩) hHeld ?_
    (try simp only [Act.put, List.setIfInBounds_toArray, List.set_cons_zero, List.set_cons_succ])
    refine anyS_take (i := 8) (o := { dst := some 26, op := _, type := _, pos := _, after := _, guard := _ }) (v := undef) rfl (by kernel_rfl) (by kernel_rfl) (by kernel_rfl) (fun _ _ _ h => h) (Or.inr ⟨by rfl, rfl⟩) hHeld ?_
    (try simp only [Act.put, List.setIfInBounds_toArray, List.set_cons_zero, List.set_cons_succ])
    refine anyS_take (i := 9) (o := { dst := some 27, op := _, type := _, pos := _, after := _, guard := _ }) (v := undef) rfl (by kernel_rfl) (by kernel_rfl) (by kernel_rfl) (fun _ _ _ h => h) (Or.inr ⟨by rfl, rfl⟩) hHeld ?_
    (try simp only [Act.put, List.setIfInBounds_toArray, List.set_cons_zero, List.set_cons_succ])
    refine anyS_take (i := 10) (o := { dst := some 28, op := _, type := _, pos := _, after := _, guard := _ }) (v := ?_) rfl (by kernel_rfl) (by kernel_rfl) (by kernel_rfl) (fun _ _ _ h => h) (Or.inl ⟨by rfl, ?_⟩) hHeld ?_
    rotate_left
    · intro w1 hS
      skip
      go_simp
      (try with_reducible rfl)
    (try simp only [Act.put, List.setIfInBounds_toArray, List.set_cons_zero, List.set_cons_succ])
    obtain ⟨c, hc2, hcp⟩ := hHeld.res
    refine anyS_next (i := 11) (o := { dst := none, op := _, type := _, pos := _, after := _, guard := _ }) rfl (by kernel_rfl) (by rfl) (fun K hK => ?_)
    refine step_store_put rfl 48 (.tmp 4) (.tmp 18) rfl w.heap.size rfl #[.int .u8 s, .int .u64 g] rfl 48 c hcp isz48 hc2 rfl ?_
    intro w4 hp4
    refine hK.out _ _ (hHeld.put rfl hp4) (fun hHeld2 => ?_)
    clear hK K hHeld
    have hHeld := hHeld2
    clear hHeld2
    (try simp only [Act.put])
    refine anyS_take (i := 12) (o := { dst := some 5, op := _, type := _, pos := _, after := _, guard := _ }) (v := ?_) rfl (by kernel_rfl) (by kernel_rfl) (by kernel_rfl) (fun _ _ _ h => h) (Or.inl ⟨by rfl, ?_⟩) hHeld ?_
    rotate_left
    · intro w1 hS
      skip
      go_simp
      (try with_reducible rfl)
    (try simp only [Act.put, List.setIfInBounds_toArray, List.set_cons_zero, List.set_cons_succ])
    refine anyS_done (by kernel_rfl) ?_ _
    go_wp2
    exact bodyPost_ret (results_cell_tmp rfl _ _ w.heap.size 48 #[.int .u8 s, .int .u64 g] (0, 0) _ rfl hp4.at_ Tryd.underlying48 rfl isz48) rfl ⟨by rw [HMB.out]; rfl, hHeld.2.out.1⟩
end Go.Proofs.YtfholfmlkehfnaaDoor
