/-
  A table's memory that the call made, and what the law's helpers do to it; the law's examples (lives); condition: the tables as laid, numbers of their kinds.
-/
import Derived.Test.YtodfjnpnfalioaaDoorTC2
namespace Go.Proofs.YtodfjnpnfalioaaDoor
open Go.RowKit Go.Maps

/-- A memory of the call's own, its words, at most so many steps. -/
structure Me (W : World) (p b : Nat) (V : Ad → Int) (k : Int) (w : World) : Prop where
  mem : ∃ M : MV, M.V = V ∧ M.s.st ≤ k ∧ VX p b M w
  low : Below W.heap.size W w
  b0 : W.heap.size ≤ b
  p0 : W.heap.size ≤ p
section
variable {p b : Nat} {V V' : Ad → Int} {k k' n i0 k0 t ow v : Int} {W w w' : World}
theorem Me.mono (h : Me W p b V k w) (hk : k ≤ k') : Me W p b V k' w := by
  obtain ⟨⟨M, h1, h2, h3⟩, a, b, c⟩ := h
  exact ⟨⟨M, h1, by omega, h3⟩, a, b, c⟩
theorem Me.below (h : Me W p b V k w) (hb : Below w.heap.size w w') : Me W p b V k w' := by
  obtain ⟨⟨M, h1, h2, h3⟩, a, b, c⟩ := h
  exact ⟨⟨M, h1, h2, h3.below hb⟩, a.trans (hb.mono a.size), b, c⟩
theorem Me.u64 (h : Me W p b V k w) (x : Ad) : U64 (V x) := by
  obtain ⟨⟨M, h1, h2, h3⟩, _⟩ := h
  rw [← h1]; exact h3.u64 x
theorem Me.lay (h : Me W p b V k w) : Lay w ∧ LayM w := by
  obtain ⟨⟨M, h1, h2, h3⟩, _⟩ := h
  exact ⟨h3.lay, h3.laym⟩
theorem Me.onl {M : MV} (h : Me W p b V k w) (hV : M.V = V') (hs : M.s.st ≤ k') (F : VX p b M w') (o : Onl p b [] w w') : Me W p b V' k' w' :=
  ⟨⟨M, hV, hs, F⟩, h.low.trans (o.below h.p0 h.b0 (fun x hx => by cases hx) h.low.size), h.b0, h.p0⟩
theorem Me.load (h : Me W p b V k w) (hk : k < 900000) {x : Ad} {c a f : Int} (hx : x.k = c ∧ x.a = a ∧ x.f = f) (hv : V x = v) :
    Calls Tryd.prog 20 #[.pointer (some ⟨p, 0, none⟩), .agg #[.int .u8 c, .int .i64 a, .int .i64 f]] w fun e w' => e = .returned (.int .u64 v) ∧ Me W p b V (k + 1) w' := by
  obtain ⟨M, h1, h2, h3⟩ := h.mem
  refine (h3.ldA (v := v) (by omega) hx ((congrFun h1 x).trans hv)).mono ?_
  rintro e w' ⟨rfl, F, o⟩
  exact ⟨rfl, h.onl (M := ldM M x) h1 (by show M.s.st + 1 ≤ _; omega) F (.of_only o)⟩
theorem Me.store (h : Me W p b V k w) (hk : k < 900000) {x : Ad} {c a f : Int} (hx : x.k = c ∧ x.a = a ∧ x.f = f) (hv : U64 v) :
    Calls Tryd.prog 17 #[.pointer (some ⟨p, 0, none⟩), .agg #[.int .u8 c, .int .i64 a, .int .i64 f], .int .u64 v] w fun e w' => e = .returned (.tuple #[]) ∧ Me W p b (setV V x v) (k + 1) w' := by
  obtain ⟨M, h1, h2, h3⟩ := h.mem
  refine (h3.stA (by omega) hx hv).mono ?_
  rintro e w' ⟨rfl, F, o⟩
  exact ⟨rfl, h.onl (M := stM M x v) (by show setV M.V x v = _; rw [h1]) (by show M.s.st + 1 ≤ _; omega) F (.of_only o)⟩
theorem Me.joined {th er nk : Int} {N : Nat} {Q : (Ad → Int) → Prop} (h : Me W p b V k w) (hk : k < 900000) (hw : (Lit.int .i64 ow).wf = true) (hN : N ≤ 40) (hn : (N : Int) = nk) (hE : ∀ M : MV, M.V = V → ∃ o' M', Ends (newJ ow) M N o' M' ∧ o'.th = th ∧ o'.e = er ∧ Q M'.V) :
    Calls Tryd.prog 22 #[.pointer (some ⟨p, 0, none⟩), .int .i64 ow] w fun e w' => e = .returned (.tuple #[.int .i64 th, .int .i64 er, .int .i64 nk]) ∧ ∃ V', Q V' ∧ Me W p b V' (k + 40) w' := by
  obtain ⟨M, h1, h2, h3⟩ := h.mem
  obtain ⟨o', M', e1, rfl, rfl, e4⟩ := hE M h1
  subst hn
  have := e1.st
  refine (joined_any ow hw h3 (by omega) e1 hN).mono ?_
  rintro e w' ⟨rfl, F, o⟩
  exact ⟨rfl, M'.V, e4, h.onl rfl (by omega) F o⟩
theorem Me.left {er nk : Int} {N : Nat} {Q : (Ad → Int) → Prop} (h : Me W p b V k w) (hk : k < 900000) (hN : N ≤ 40) (hn : (N : Int) = nk) (hE : ∀ M : MV, M.V = V → ∃ o' M', Ends (newL t) M N o' M' ∧ o'.e = er ∧ Q M'.V) :
    Calls Tryd.prog 23 #[.pointer (some ⟨p, 0, none⟩), .int .i64 t] w fun e w' => e = .returned (.tuple #[.int .i64 er, .int .i64 nk]) ∧ ∃ V', Q V' ∧ Me W p b V' (k + 40) w' := by
  obtain ⟨M, h1, h2, h3⟩ := h.mem
  obtain ⟨o', M', e1, rfl, e4⟩ := hE M h1
  subst hn
  have := e1.st
  refine (left_any t h3 (by omega) e1 hN).mono ?_
  rintro e w' ⟨rfl, F, o⟩
  exact ⟨rfl, M'.V, e4, h.onl rfl (by omega) F o⟩
theorem Me.took (h : Me W p b V k w) (hk : k < 900000) (hw : (Lit.int .i64 ow).wf = true) (how : 0 ≤ ow) (hn : 1 ≤ n ∧ n ≤ 4) (hN : V adN = n) (hi0 : 0 ≤ i0 ∧ i0 < n) (hk0 : 0 ≤ k0 ∧ k0 < 4) (hr : Room V i0) (hr2 : ∀ l, 0 ≤ l → l < i0 → ¬ Room V l) (hf : V (adT (4 * i0 + k0) 0) = 0) (hf2 : ∀ l, 0 ≤ l → l < k0 → V (adT (4 * i0 + l) 0) ≠ 0) :
    Calls Tryd.prog 22 #[.pointer (some ⟨p, 0, none⟩), .int .i64 ow] w fun e w' => e = .returned (.tuple #[.int .i64 (4 * i0 + k0), .int .i64 0, .int .i64 (13 + i0 + k0)]) ∧ ∃ V', Took V V' (4 * i0 + k0) (ow + 1) ∧ Me W p b V' (k + 40) w' :=
  h.joined (N := 13 + i0.toNat + k0.toNat) hk hw (by omega) (by push_cast; omega) fun M hM => by
    subst hM
    exact join_alone hn hN how hi0 hk0 hr hr2 hf hf2
theorem Me.full (h : Me W p b V k w) (hk : k < 900000) (hw : (Lit.int .i64 ow).wf = true) (how : 0 ≤ ow) (hn : 1 ≤ n ∧ n ≤ 4) (hN : V adN = n) (hr : ∀ l, 0 ≤ l → l < n → ¬ Room V l) :
    Calls Tryd.prog 22 #[.pointer (some ⟨p, 0, none⟩), .int .i64 ow] w fun e w' => e = .returned (.tuple #[.int .i64 (-1), .int .i64 5, .int .i64 (1 + n)]) ∧ Me W p b V (k + 40) w' := by
  refine (h.joined (N := 1 + n.toNat) (th := -1) (er := 5) (nk := 1 + n) (Q := fun X => X = V) hk hw (by omega) (by push_cast; omega) fun M hM => ?_).mono ?_
  · subst hM
    exact full_alone hn hN how hr
  · rintro e w' ⟨rfl, V', rfl, h'⟩
    exact ⟨rfl, h'⟩
theorem Me.noBlock (h : Me W p b V k w) (hk : k < 900000) (hw : (Lit.int .i64 ow).wf = true) (how : 0 ≤ ow) (hN : V adN = 0) :
    Calls Tryd.prog 22 #[.pointer (some ⟨p, 0, none⟩), .int .i64 ow] w fun e w' => e = .returned (.tuple #[.int .i64 (-1), .int .i64 5, .int .i64 1]) ∧ Me W p b V (k + 40) w' := by
  refine (h.joined (N := 1) (th := -1) (er := 5) (nk := 1) (Q := fun X => X = V) hk hw (by omega) rfl fun M hM => ?_).mono ?_
  · subst hM
    exact none_alone hN how
  · rintro e w' ⟨rfl, V', rfl, h'⟩
    exact ⟨rfl, h'⟩
theorem Me.gone (h : Me W p b V k w) (hk : k < 900000) (ht : 0 ≤ t ∧ t < 16) (h0 : V (adT t 0) ≠ 0) (h1 : V (adT t 1) = 0) :
    Calls Tryd.prog 23 #[.pointer (some ⟨p, 0, none⟩), .int .i64 t] w fun e w' => e = .returned (.tuple #[.int .i64 0, .int .i64 6]) ∧ Me W p b (leftV V t) (k + 40) w' := by
  refine (h.left (N := 6) (er := 0) (nk := 6) (Q := fun X => X = leftV V t) hk (by omega) rfl fun M hM => ?_).mono ?_
  · subst hM
    exact leave_alone ht h0 h1
  · rintro e w' ⟨rfl, V', rfl, h'⟩
    exact ⟨rfl, h'⟩
theorem Me.nobody (h : Me W p b V k w) (hk : k < 900000) (ht : 0 ≤ t ∧ t < 16) (h0 : V (adT t 0) = 0) :
    Calls Tryd.prog 23 #[.pointer (some ⟨p, 0, none⟩), .int .i64 t] w fun e w' => e = .returned (.tuple #[.int .i64 6, .int .i64 1]) ∧ Me W p b V (k + 40) w' := by
  refine (h.left (N := 1) (er := 6) (nk := 1) (Q := fun X => X = V) hk (by omega) rfl fun M hM => ?_).mono ?_
  · subst hM
    exact nobody_alone ht h0
  · rintro e w' ⟨rfl, V', rfl, h'⟩
    exact ⟨rfl, h'⟩
theorem Me.inside (h : Me W p b V k w) (hk : k < 900000) (ht : 0 ≤ t ∧ t < 16) (h0 : V (adT t 0) ≠ 0) (h1 : V (adT t 1) ≠ 0) :
    Calls Tryd.prog 23 #[.pointer (some ⟨p, 0, none⟩), .int .i64 t] w fun e w' => e = .returned (.tuple #[.int .i64 4, .int .i64 2]) ∧ Me W p b V (k + 40) w' := by
  refine (h.left (N := 2) (er := 4) (nk := 2) (Q := fun X => X = V) hk (by omega) rfl fun M hM => ?_).mono ?_
  · subst hM
    exact inside_alone ht h0 h1
  · rintro e w' ⟨rfl, V', rfl, h'⟩
    exact ⟨rfl, h'⟩
theorem table_me (n : Int) (h0 : 0 ≤ n) (h1 : n < 1000) (hL : Lay w) (hM : LayM w) : Calls Tryd.prog 16 #[.int .i64 n] w fun e w' => ∃ p b, e = .returned (.pointer (some ⟨p, 0, none⟩)) ∧ Me w p b (V0t n) 1 w' := by
  refine (table_any n h0 h1 hL hM).mono ?_
  rintro e w' ⟨p, b, M, rfl, F, hV, hs, hb, h2, h3⟩
  exact ⟨p, b, rfl, ⟨M, hV, hs, F⟩, hb, h2, by omega⟩
/-- The first two threads of a table of one block. -/
theorem first_took (h : Me W p b (V0t 1) k w) (hk : k < 900000) (hw : (Lit.int .i64 ow).wf = true) (how : 0 ≤ ow) :
    Calls Tryd.prog 22 #[.pointer (some ⟨p, 0, none⟩), .int .i64 ow] w fun e w' => e = .returned (.tuple #[.int .i64 0, .int .i64 0, .int .i64 13]) ∧ ∃ V', Took (V0t 1) V' 0 (ow + 1) ∧ Me W p b V' (k + 40) w' :=
  h.took (n := 1) (i0 := 0) (k0 := 0) hk hw how (by decide) V0t_N (by decide) (by decide) (by unfold Room; rw [V0t_K (by decide)]; exact ⟨room_0.1, by rw [room_0.2]; decide⟩) (fun l h1 h2 => by omega) (V0t_T (by decide) (by decide)) (fun l h1 h2 => by omega)
theorem Took.room {V1 : Ad → Int} (T : Took V V1 t ow) (_ht : 0 ≤ t ∧ t < 16) (h : V (adK (t / 4)) = blockW n false) (hn : 0 ≤ n ∧ n < 100) : V1 (adK (t / 4)) = blockW (n + 1) false := by
  obtain ⟨e1, e2⟩ := blk_back (j := n) false ⟨hn.1, by omega⟩
  rw [T.blk, h]
  unfold addW
  rw [e1, e2]
theorem blockW_0 : blockW 0 false = 0 := by decide
theorem Took.same_T {V1 : Ad → Int} (T : Took V V1 t ow) (ht : 0 ≤ t ∧ t < 16) {t' f : Int} (ht' : 0 ≤ t' ∧ t' < 16) (hf : 0 ≤ f ∧ f < 10) (h : t' ≠ t) : V1 (adT t' f) = V (adT t' f) := T.far _ (Ne.symm (neKT ⟨by omega, by omega⟩ ht' hf)) fun f' h1 h2 => neTT ht' hf ht ⟨h1, h2⟩ (.inl h)
theorem Took.same_N {V1 : Ad → Int} (T : Took V V1 t ow) (ht : 0 ≤ t ∧ t < 16) : V1 adN = V adN := T.far _ (neNK ⟨by omega, by omega⟩) fun f' h1 h2 => neNT ht ⟨h1, h2⟩
theorem Took.same_K {V1 : Ad → Int} (T : Took V V1 t ow) (ht : 0 ≤ t ∧ t < 16) {i : Int} (hi : 0 ≤ i ∧ i < 4) (h : i ≠ t / 4) : V1 (adK i) = V (adK i) := T.far _ (neKK hi ⟨by omega, by omega⟩ h) fun f' h1 h2 => neKT hi ht ⟨h1, h2⟩
theorem left_T (ht : 0 ≤ t ∧ t < 16) : leftV V t (adT t 0) = 0 := by
  unfold leftV
  rw [setV_other (Ne.symm (neKT ⟨by omega, by omega⟩ ht (by decide))), setV_same (mayT ht (by decide))]
theorem left_far (_ht : 0 ≤ t ∧ t < 16) {x : Ad} (h1 : x ≠ adK (t / 4)) (h2 : x ≠ adT t 0) (h3 : x ≠ adT t 6) : leftV V t x = V x := by
  unfold leftV
  rw [setV_other h1, setV_other h2, setV_other h3]
theorem left_K (ht : 0 ≤ t ∧ t < 16) : leftV V t (adK (t / 4)) = fewW (V (adK (t / 4))) := setV_same (mayK ⟨by omega, by omega⟩) _
/-- The chapter's examples. -/
theorem second_took (T : Took (V0t 1) V 0 8) (h : Me W p b V k w) (hk : k < 900000) :
    Calls Tryd.prog 22 #[.pointer (some ⟨p, 0, none⟩), .int .i64 7] w fun e w' => e = .returned (.tuple #[.int .i64 1, .int .i64 0, .int .i64 14]) ∧ ∃ V', (V' (adT 0 0) = 8 ∧ V' (adT 0 1) = 0) ∧ Me W p b V' (k + 40) w' := by
  have hK : V (adK 0) = blockW 1 false := T.room (n := 0) (by decide) (by rw [show (0 : Int) / 4 = 0 from rfl, V0t_K (by decide), blockW_0]) (by decide)
  have hr : Room V 0 := by
    unfold Room
    rw [hK]
    decide
  refine (h.took (n := 1) (i0 := 0) (k0 := 1) (ow := 7) hk (by decide) (by decide) (by decide) ((T.same_N (by decide)).trans V0t_N) (by decide) (by decide) hr (fun l h1 h2 => by omega) ((T.same_T (by decide) (by decide) (by decide) (by decide)).trans (V0t_T (by decide) (by decide))) (fun l h1 h2 => ?_)).mono ?_
  · obtain rfl : l = 0 := by omega
    rw [show 4 * (0 : Int) + 0 = 0 from rfl, T.own]; decide
  · rintro e w' ⟨rfl, V', T2, h2⟩
    refine ⟨rfl, V', ⟨?_, ?_⟩, h2⟩
    · rw [T2.same_T (by decide) (by decide) (by decide) (by decide), T.own]
    · rw [T2.same_T (by decide) (by decide) (by decide) (by decide), T.wiped 1 (by decide) (by decide)]
set_option maxRecDepth 100000 in
set_option maxHeartbeats 4000000 in
theorem lives10_any (hL : Lay W) (hM : LayM W) : Calls Tryd.prog 6 #[] W fun e w' => e = .returned (.bool true) ∧ Below W.heap.size W w' := by
  have HL := Lib.hid hL
  have HM := Lib.hid hM
  clear hL hM
  go_enter Tryd.func6, Tryd.ntmps6
  go_wp2_with fail
  ((with_reducible refine (table_me 1 (by decide) (by decide) HL.out HM.out).mono ?_); rintro e w1 ⟨p, b, rfl, h1⟩)
  have H1 := Lib.hid h1
  clear h1
  go_wp2_with fail
  ((with_reducible refine (first_took (ow := 7) H1.out (by decide) (by decide) (by decide)).mono ?_); rintro e w2 ⟨rfl, V1, T1, h2⟩)
  have HT := Lib.hid T1
  have H2 := Lib.hid h2
  clear T1 h2
  go_wp2_with fail
  ((with_reducible refine (ofT 0 0 _).mono ?_); rintro e w3 ⟨rfl, hb3⟩)
  have H3 := Lib.hid (H2.out.below hb3)
  clear hb3 H2
  go_wp2_with fail
  ((with_reducible refine (H3.out.load (by decide) (adT_at (t := 0) (f := 0) (by decide) (by decide)) HT.out.own).mono ?_); rintro e w4 ⟨rfl, h4⟩)
  have H4 := Lib.hid h4
  clear h4 H3
  go_wp2_with fail
  ((with_reducible refine (second_took HT.out H4.out (by decide)).mono ?_); rintro e w5 ⟨rfl, V2, T2, h5⟩)
  have H5 := Lib.hid h5
  have HV := Lib.hid T2
  clear h5 H4 T2
  go_wp2_with fail
  have h8 : V2 (adT 0 0) ≠ 0 := by rw [HV.out.1]; decide
  ((with_reducible refine (H5.out.gone (by decide) (by decide) h8 HV.out.2).mono ?_); rintro e w6 ⟨rfl, h6⟩)
  have H6 := Lib.hid h6
  clear h6 H5 h8
  go_wp2_with fail
  ((with_reducible refine (H6.out.nobody (by decide) (by decide) (left_T (by decide))).mono ?_); rintro e w7 ⟨rfl, h7⟩)
  have H7 := Lib.hid h7
  clear h7 H6
  go_wp2_with fail
  ((with_reducible refine (table_me 0 (by decide) (by decide) H7.out.lay.1 H7.out.lay.2).mono ?_); rintro e w8 ⟨p2, b2, rfl, h8⟩)
  have H8 := Lib.hid h8
  clear h8
  go_wp2_with fail
  ((with_reducible refine (H8.out.noBlock (ow := 7) (by decide) (by decide) (by decide) V0t_N).mono ?_); rintro e w9 ⟨rfl, h9⟩)
  have H9 := Lib.hid h9
  clear h9
  go_wp2_with fail
  go_ret
  exact ⟨rfl, H7.out.low.trans (H9.out.low.mono H7.out.low.size)⟩
end
end Go.Proofs.YtodfjnpnfalioaaDoor
