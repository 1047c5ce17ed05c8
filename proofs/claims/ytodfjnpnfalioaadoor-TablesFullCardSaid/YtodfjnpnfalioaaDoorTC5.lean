/-
  What the law TablesFull stands at: a table's memory, and the row of threads that were joined; what its calls do to it; condition: the tables as laid, numbers of their kinds.
-/
import Derived.Test.YtodfjnpnfalioaaDoorTC4
namespace Go.Proofs.YtodfjnpnfalioaaDoor
open Go.RowKit Go.Maps

/-- Sixteen Booleans in a row. -/
def seenL (S : Nat → Bool) : List Value := (List.range 16).map fun i => .bool (S i)
theorem seenL_at (S : Nat → Bool) (i : Nat) (h : i < 16) : (seenL S)[i]? = some (.bool (S i)) := by
  unfold seenL
  rw [List.getElem?_map, List.getElem?_range h]
  rfl
theorem seenL_set (S : Nat → Bool) (i : Nat) (_h : i < 16) : (seenL S).set i (.bool true) = seenL (fun j => if j = i then true else S j) := by
  apply List.ext_getElem?
  intro j
  rw [List.getElem?_set]
  by_cases hj : j < 16
  · rw [seenL_at (fun j => if j = i then true else S j) j hj]
    by_cases e : i = j
    · subst e
      rw [if_pos rfl, if_pos (by simpa [seenL] using hj), if_pos rfl]
    · rw [if_neg e, seenL_at S j hj, if_neg (Ne.symm e)]
  · have h1 : (seenL (fun j => if j = i then true else S j))[j]? = none := List.getElem?_eq_none (by simp [seenL]; omega)
    have h2 : (seenL S)[j]? = none := List.getElem?_eq_none (by simp [seenL]; omega)
    rw [h1, h2]
    split
    · rename_i e
      subst e
      rw [if_neg (by simp [seenL]; omega)]
    · rfl
/-- The memory, and the row in block g. -/
structure Fs (W : World) (p b g : Nat) (V : Ad → Int) (S : Nat → Bool) (k : Int) (w : World) : Prop where
  mem : ∃ M : MV, M.V = V ∧ M.s.st ≤ k ∧ VX p b M w
  low : Below W.heap.size W w
  b0 : W.heap.size ≤ b
  p0 : W.heap.size ≤ p
  g0 : W.heap.size ≤ g
  row : Bq g 4 (seenL S) w
  w1 : 1 < W.heap.size
section
variable {p b g : Nat} {V V' : Ad → Int} {S : Nat → Bool} {k k' n i0 k0 t ow v : Int} {W w w' : World}
theorem Fs.mono (h : Fs W p b g V S k w) (hk : k ≤ k') : Fs W p b g V S k' w := by
  obtain ⟨⟨M, h1, h2, h3⟩, a, b, c, d, e, f⟩ := h
  exact ⟨⟨M, h1, by omega, h3⟩, a, b, c, d, e, f⟩
theorem Fs.below (h : Fs W p b g V S k w) (hb : Below w.heap.size w w') : Fs W p b g V S k w' := by
  obtain ⟨⟨M, h1, h2, h3⟩, a, b, c, d, e, f⟩ := h
  exact ⟨⟨M, h1, h2, h3.below hb⟩, a.trans (hb.mono a.size), b, c, d, e.below hb, f⟩
theorem Fs.ne (h : Fs W p b g V S k w) : g ≠ p ∧ g ≠ b := by
  obtain ⟨⟨M, h1, h2, h3⟩, _, _, _, _, e, _⟩ := h
  exact h3.ne (by decide) e
theorem Fs.onl {M : MV} (h : Fs W p b g V S k w) (hV : M.V = V') (hs : M.s.st ≤ k') (F : VX p b M w') (o : Onl p b [] w w') : Fs W p b g V' S k' w' :=
  ⟨⟨M, hV, hs, F⟩, h.low.trans (o.below h.p0 h.b0 (fun x hx => by cases hx) h.low.size), h.b0, h.p0, h.g0, h.row.onl o h.ne.1 h.ne.2 (by simp), h.w1⟩
theorem Fs.u64 (h : Fs W p b g V S k w) (x : Ad) : U64 (V x) := by
  obtain ⟨⟨M, h1, h2, h3⟩, _⟩ := h
  rw [← h1]; exact h3.u64 x
theorem Fs.lay (h : Fs W p b g V S k w) : Lay w ∧ LayM w := by
  obtain ⟨⟨M, h1, h2, h3⟩, _⟩ := h
  exact ⟨h3.lay, h3.laym⟩
theorem Fs.seen (h : Fs W p b g V S k w) (i : Nat) (hi : i < 16) : w.cell? ⟨g, i, none⟩ = some (.bool (S i)) ∧ w.frozen? ⟨g, i, none⟩ = false := ⟨(h.row.cell i).trans (seenL_at S i hi), h.row.free i⟩
theorem Fs.mark (h : Fs W p b g V S k w) (i : Nat) (hi : i < 16) : Fs W p b g V (fun j => if j = i then true else S j) k (w.setCell ⟨g, i, none⟩ (.bool true)) := by
  obtain ⟨n1, n2⟩ := h.ne
  obtain ⟨⟨M, h1, h2, h3⟩, a, b, c, d, e, f⟩ := h
  exact ⟨⟨M, h1, h2, h3.setQ n1 n2 (Nat.lt_of_lt_of_le f d) i _⟩, a.setCell (p := ⟨g, i, none⟩) d _, b, c, d, e.set i _ (seenL_set S i hi).symm, f⟩
theorem Fs.load (h : Fs W p b g V S k w) (hk : k < 900000) {x : Ad} {c a f : Int} (hx : x.k = c ∧ x.a = a ∧ x.f = f) (hv : V x = v) :
    Calls Tryd.prog 20 #[.pointer (some ⟨p, 0, none⟩), .agg #[.int .u8 c, .int .i64 a, .int .i64 f]] w fun e w' => e = .returned (.int .u64 v) ∧ Fs W p b g V S (k + 1) w' := by
  obtain ⟨M, h1, h2, h3⟩ := h.mem
  refine (h3.ldA (v := v) (by omega) hx ((congrFun h1 x).trans hv)).mono ?_
  rintro e w' ⟨rfl, F, o⟩
  exact ⟨rfl, h.onl (M := ldM M x) h1 (by show M.s.st + 1 ≤ _; omega) F (.of_only o)⟩
theorem Fs.store (h : Fs W p b g V S k w) (hk : k < 900000) {x : Ad} {c a f : Int} (hx : x.k = c ∧ x.a = a ∧ x.f = f) (hv : U64 v) :
    Calls Tryd.prog 17 #[.pointer (some ⟨p, 0, none⟩), .agg #[.int .u8 c, .int .i64 a, .int .i64 f], .int .u64 v] w fun e w' => e = .returned (.tuple #[]) ∧ Fs W p b g (setV V x v) S (k + 1) w' := by
  obtain ⟨M, h1, h2, h3⟩ := h.mem
  refine (h3.stA (by omega) hx hv).mono ?_
  rintro e w' ⟨rfl, F, o⟩
  exact ⟨rfl, h.onl (M := stM M x v) (by show setV M.V x v = _; rw [h1]) (by show M.s.st + 1 ≤ _; omega) F (.of_only o)⟩
theorem Fs.joined {th er nk : Int} {N : Nat} {Q : (Ad → Int) → Prop} (h : Fs W p b g V S k w) (hk : k < 900000) (hw : (Lit.int .i64 ow).wf = true) (hN : N ≤ 40) (hn : (N : Int) = nk) (hE : ∀ M : MV, M.V = V → ∃ o' M', Ends (newJ ow) M N o' M' ∧ o'.th = th ∧ o'.e = er ∧ Q M'.V) :
    Calls Tryd.prog 22 #[.pointer (some ⟨p, 0, none⟩), .int .i64 ow] w fun e w' => e = .returned (.tuple #[.int .i64 th, .int .i64 er, .int .i64 nk]) ∧ ∃ V', Q V' ∧ Fs W p b g V' S (k + 40) w' := by
  obtain ⟨M, h1, h2, h3⟩ := h.mem
  obtain ⟨o', M', e1, rfl, rfl, e4⟩ := hE M h1
  subst hn
  have := e1.st
  refine (joined_any ow hw h3 (by omega) e1 hN).mono ?_
  rintro e w' ⟨rfl, F, o⟩
  exact ⟨rfl, M'.V, e4, h.onl rfl (by omega) F o⟩
theorem Fs.left {er nk : Int} {N : Nat} {Q : (Ad → Int) → Prop} (h : Fs W p b g V S k w) (hk : k < 900000) (hN : N ≤ 40) (hn : (N : Int) = nk) (hE : ∀ M : MV, M.V = V → ∃ o' M', Ends (newL t) M N o' M' ∧ o'.e = er ∧ Q M'.V) :
    Calls Tryd.prog 23 #[.pointer (some ⟨p, 0, none⟩), .int .i64 t] w fun e w' => e = .returned (.tuple #[.int .i64 er, .int .i64 nk]) ∧ ∃ V', Q V' ∧ Fs W p b g V' S (k + 40) w' := by
  obtain ⟨M, h1, h2, h3⟩ := h.mem
  obtain ⟨o', M', e1, rfl, e4⟩ := hE M h1
  subst hn
  have := e1.st
  refine (left_any t h3 (by omega) e1 hN).mono ?_
  rintro e w' ⟨rfl, F, o⟩
  exact ⟨rfl, M'.V, e4, h.onl rfl (by omega) F o⟩
theorem Fs.took (h : Fs W p b g V S k w) (hk : k < 900000) (hw : (Lit.int .i64 ow).wf = true) (how : 0 ≤ ow) (hn : 1 ≤ n ∧ n ≤ 4) (hN : V adN = n) (hi0 : 0 ≤ i0 ∧ i0 < n) (hk0 : 0 ≤ k0 ∧ k0 < 4) (hr : Room V i0) (hr2 : ∀ l, 0 ≤ l → l < i0 → ¬ Room V l) (hf : V (adT (4 * i0 + k0) 0) = 0) (hf2 : ∀ l, 0 ≤ l → l < k0 → V (adT (4 * i0 + l) 0) ≠ 0) :
    Calls Tryd.prog 22 #[.pointer (some ⟨p, 0, none⟩), .int .i64 ow] w fun e w' => e = .returned (.tuple #[.int .i64 (4 * i0 + k0), .int .i64 0, .int .i64 (13 + i0 + k0)]) ∧ ∃ V', Took V V' (4 * i0 + k0) (ow + 1) ∧ Fs W p b g V' S (k + 40) w' :=
  h.joined (N := 13 + i0.toNat + k0.toNat) hk hw (by omega) (by push_cast; omega) fun M hM => by
    subst hM
    exact join_alone hn hN how hi0 hk0 hr hr2 hf hf2
theorem Fs.full (h : Fs W p b g V S k w) (hk : k < 900000) (hw : (Lit.int .i64 ow).wf = true) (how : 0 ≤ ow) (hn : 1 ≤ n ∧ n ≤ 4) (hN : V adN = n) (hr : ∀ l, 0 ≤ l → l < n → ¬ Room V l) :
    Calls Tryd.prog 22 #[.pointer (some ⟨p, 0, none⟩), .int .i64 ow] w fun e w' => e = .returned (.tuple #[.int .i64 (-1), .int .i64 5, .int .i64 (1 + n)]) ∧ Fs W p b g V S (k + 40) w' := by
  refine (h.joined (N := 1 + n.toNat) (th := -1) (er := 5) (nk := 1 + n) (Q := fun X => X = V) hk hw (by omega) (by push_cast; omega) fun M hM => ?_).mono ?_
  · subst hM
    exact full_alone hn hN how hr
  · rintro e w' ⟨rfl, V', rfl, h'⟩
    exact ⟨rfl, h'⟩
theorem Fs.gone (h : Fs W p b g V S k w) (hk : k < 900000) (ht : 0 ≤ t ∧ t < 16) (h0 : V (adT t 0) ≠ 0) (h1 : V (adT t 1) = 0) :
    Calls Tryd.prog 23 #[.pointer (some ⟨p, 0, none⟩), .int .i64 t] w fun e w' => e = .returned (.tuple #[.int .i64 0, .int .i64 6]) ∧ Fs W p b g (leftV V t) S (k + 40) w' := by
  refine (h.left (N := 6) (er := 0) (nk := 6) (Q := fun X => X = leftV V t) hk (by omega) rfl fun M hM => ?_).mono ?_
  · subst hM
    exact leave_alone ht h0 h1
  · rintro e w' ⟨rfl, V', rfl, h'⟩
    exact ⟨rfl, h'⟩
theorem Fs.nobody (h : Fs W p b g V S k w) (hk : k < 900000) (ht : 0 ≤ t ∧ t < 16) (h0 : V (adT t 0) = 0) :
    Calls Tryd.prog 23 #[.pointer (some ⟨p, 0, none⟩), .int .i64 t] w fun e w' => e = .returned (.tuple #[.int .i64 6, .int .i64 1]) ∧ Fs W p b g V S (k + 40) w' := by
  refine (h.left (N := 1) (er := 6) (nk := 1) (Q := fun X => X = V) hk (by omega) rfl fun M hM => ?_).mono ?_
  · subst hM
    exact nobody_alone ht h0
  · rintro e w' ⟨rfl, V', rfl, h'⟩
    exact ⟨rfl, h'⟩
set_option maxRecDepth 100000 in
set_option maxHeartbeats 8000000 in
/-- Whoever joins where others' words stand. -/
theorem Fs.over {sh was : Int} (h : Fs W p b g V S k w) (hk : k < 700000) (T : Tab n sh V) (hf : ∃ i, 0 ≤ i ∧ i < n ∧ i ≠ sh ∧ cnt V i < 4) (hw : (Lit.int .i64 ow).wf = true) (how : 0 ≤ ow) (hwas : U64 was) :
    Calls Tryd.prog 19 #[.pointer (some ⟨p, 0, none⟩), .int .i64 ow, .int .u64 was] w fun e w' => ∃ (t : Nat) (nk : Int) (V' : Ad → Int), e = .returned (.tuple #[.int .i64 (t : Int), .int .i64 0, .int .i64 nk]) ∧ (t : Int) < 4 * n ∧ (t : Int) / 4 ≠ sh ∧ occ V t = 0 ∧ Tab n sh V' ∧ occ V' t = 1 ∧ (∀ t' : Int, 0 ≤ t' → t' < 16 → t' ≠ t → occ V' t' = occ V t') ∧ tot n sh V' = tot n sh V + 1 ∧ (∀ f, 1 ≤ f → f < 10 → V' (adT t f) = 0) ∧ Fs W p b g V' S (k + 300) w' := by
  have HH := Lib.hid h
  have HT := Lib.hid T
  have HF := Lib.hid hf
  clear h T hf
  go_enter Tryd.func19, Tryd.ntmps19
  go_wp2_with fail
  go_loopw [9] (fun j wr => ∃ i : Nat, i ≤ 16 ∧ j = .int .i64 (i : Int) ∧ Hid (∃ V1, Dirt V V1 ∧ Fs W p b g V1 S (k + 10 * i) wr)) (fun j _ => 17 - (intOf j).toNat)
  case atStart => exact ⟨0, by decide, rfl, Lib.hid ⟨V, .refl V, HH.out.mono (by simp)⟩⟩
  case round =>
    clear HH
    obtain ⟨i, hi, rfl, hr⟩ := hrel
    have hge : (0 : Int) ≤ (i : Int) := by omega
    obtain ⟨V1, D1, h1⟩ := hr.out
    have HD := Lib.hid D1
    have H1 := Lib.hid h1
    clear hr D1 h1
    by_cases hlt : i < 16
    · have hlt' : (i : Int) < 16 := by omega
      have hti : 0 ≤ (i : Int) ∧ (i : Int) < 16 := ⟨hge, hlt'⟩
      go_wp2_with fail
      ((with_reducible refine (ofT _ 0 _).mono ?_); rintro e w1 ⟨rfl, hb1⟩)
      have H2 := Lib.hid (H1.out.below hb1)
      clear hb1 H1
      by_cases hz : V1 (adT (i : Int) 0) = 0
      · go_wp2_with fail
        ((with_reducible refine (H2.out.load (by omega) (adT_at (t := (i : Int)) (f := 0) hti (by decide)) hz).mono ?_); rintro e w2 ⟨rfl, h3⟩)
        have H3 := Lib.hid h3
        clear h3 H2 hz
        go_wp2_with fail
        go_loopw [10] (fun j wr => ∃ f : Nat, 2 ≤ f ∧ f ≤ 10 ∧ j = .int .i64 (f : Int) ∧ Hid (∃ V2, Dirt V V2 ∧ Fs W p b g V2 S (k + 10 * i + f) wr)) (fun j _ => 11 - (intOf j).toNat)
        case atStart => exact ⟨2, by decide, by decide, rfl, Lib.hid ⟨V1, HD.out, H3.out.mono (by push_cast; omega)⟩⟩
        case round =>
          clear H3 HD
          obtain ⟨f, hf2, hf10, rfl, hr⟩ := hrel
          obtain ⟨V2, D2, h4⟩ := hr.out
          have HD2 := Lib.hid D2
          have H4 := Lib.hid h4
          clear hr D2 h4
          have hgf : (0 : Int) ≤ (f : Int) := by omega
          by_cases hlf : f < 10
          · have hlf' : (f : Int) < 10 := by omega
            go_wp2_with fail
            ((with_reducible refine (ofT _ _ _).mono ?_); rintro e w3 ⟨rfl, hb3⟩)
            have H5 := Lib.hid (H4.out.below hb3)
            clear hb3 H4
            go_wp2_with fail
            ((with_reducible refine (H5.out.store (by omega) (adT_at (t := (i : Int)) (f := (f : Int)) hti ⟨by omega, hlf'⟩) hwas).mono ?_); rintro e w4 ⟨rfl, h6⟩)
            have H6 := Lib.hid h6
            clear h6 H5
            go_wp2_with fail
            go_roundw
            case rel => exact ⟨f + 1, by omega, by omega, by go_num, Lib.hid ⟨_, HD2.out.set hti ⟨by omega, hlf'⟩, H6.out.mono (by push_cast; omega)⟩⟩
            case measure => simp [intOf]; omega
          · have hlf' : (10 : Int) ≤ (f : Int) := by omega
            go_wp2_with fail
            go_roundw
            case rel => exact ⟨i + 1, by omega, by go_num, Lib.hid ⟨V2, HD2.out, H4.out.mono (by push_cast; omega)⟩⟩
            case measure => simp [intOf]; omega
      · obtain ⟨x, hx⟩ : ∃ x, V1 (adT (i : Int) 0) = x := ⟨_, rfl⟩
        have hxb : (x == 0) = false := beq_eq_false_iff_ne.2 (by rw [← hx]; exact hz)
        clear hz
        go_wp2_with fail
        ((with_reducible refine (H2.out.load (by omega) (adT_at (t := (i : Int)) (f := 0) hti (by decide)) hx).mono ?_); rintro e w2 ⟨rfl, h3⟩)
        have H3 := Lib.hid h3
        clear h3 H2 hx
        go_wp2_with fail
        go_roundw
        case rel => exact ⟨i + 1, by omega, by go_num, Lib.hid ⟨V1, HD.out, H3.out.mono (by push_cast; omega)⟩⟩
        case measure => simp [intOf]; omega
    · have hlt' : (16 : Int) ≤ (i : Int) := by omega
      obtain ⟨T1, et⟩ := HD.out.tab HT.out
      have hf1 : ∃ i, 0 ≤ i ∧ i < n ∧ i ≠ sh ∧ cnt V1 i < 4 := by
        obtain ⟨i, a, b, c, d⟩ := HF.out
        have := HT.out.n14
        exact ⟨i, a, b, c, by rw [HD.out.cnt ⟨a, by omega⟩]; exact d⟩
      obtain ⟨i0, k0, g1, g2, g3, g4, g5, g6, g7⟩ := T1.next hf1
      have hcall := H1.out.took (by omega) hw how T1.n14 T1.N g1 g2 g4 g5 g6 g7
      have hn := T1.n14
      obtain ⟨q, hq⟩ : ∃ q : Nat, (q : Int) = 4 * i0 + k0 := ⟨(4 * i0 + k0).toNat, by omega⟩
      rw [← hq] at hcall
      have hd : (q : Int) / 4 = i0 := by omega
      rw [← hq] at g6
      have HX := Lib.hid (show (q : Int) < 4 * n ∧ (q : Int) / 4 ≠ sh ∧ V1 (adT q 0) = 0 from ⟨by omega, by rw [hd]; exact g3, g6⟩)
      have HT1 := Lib.hid T1
      have HE := Lib.hid et
      clear T1 et hf1 g4 g5 g6 g7 HF hq hd
      go_wp2_with fail
      ((with_reducible refine hcall.mono ?_); rintro e w3 ⟨rfl, V', K', h5⟩)
      have HK := Lib.hid K'
      have H5 := Lib.hid h5
      clear hcall K' h5 H1
      go_wp2_with fail
      go_ret3
      obtain ⟨x1, x2, x3⟩ := HX.out
      obtain ⟨y1, y2, y3, y4⟩ := HT1.out.took ⟨by omega, x1⟩ x2 x3 (by omega) HK.out
      have oc : ∀ t' : Int, 0 ≤ t' → t' < 16 → occ V1 t' = occ V t' := fun t' a b => occ_same (HD.out.T ⟨a, b⟩ (by decide))
      have hq16 : (q : Int) < 16 := by omega
      exact ⟨q, _, V', rfl, x1, x2, by rw [← oc q (by omega) hq16]; exact occ_0.2 x3, y1, y2, fun t' a b c => by rw [y3 t' a b c, oc t' a b], by rw [y4, HE.out], fun f a b => HK.out.wiped f a b, H5.out.mono (by omega)⟩
end
end Go.Proofs.YtodfjnpnfalioaaDoor
