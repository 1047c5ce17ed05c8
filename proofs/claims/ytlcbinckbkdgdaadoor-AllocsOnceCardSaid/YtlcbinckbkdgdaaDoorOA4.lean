/-
  Is what each thread has got live? The law's own look; condition: all lies as it says.
  The slots of the list, in order; a look at the memory turns none of its words; condition: the list lies as it says.
-/
import Derived.Test.YtlcbinckbkdgdaaDoorOA3
import Derived.Test.YtlcbinckbkdgdaaDoorF8
namespace Go.Proofs.YtlcbinckbkdgdaaDoor
open Go.RowKit Go.Maps

/-- What the first i threads have got. -/
def heldsA (th : Nat → TA) : Nat → List (Int × Int)
  | 0 => []
  | i + 1 => heldsA th i ++ (th i).held
theorem heldsA_part (th : Nat → TA) {i : Nat} (hi : i < 5) : ∃ r, heldsA th 5 = heldsA th i ++ ((th i).held ++ r) := by
  rcases (show i = 0 ∨ i = 1 ∨ i = 2 ∨ i = 3 ∨ i = 4 by omega) with rfl | rfl | rfl | rfl | rfl
  · exact ⟨(th 1).held ++ ((th 2).held ++ ((th 3).held ++ (th 4).held)), by simp [heldsA]⟩
  · exact ⟨(th 2).held ++ ((th 3).held ++ (th 4).held), by simp [heldsA]⟩
  · exact ⟨(th 3).held ++ (th 4).held, by simp [heldsA]⟩
  · exact ⟨(th 4).held, by simp [heldsA]⟩
  · exact ⟨[], by simp [heldsA]⟩
def seenL (th : Nat → TA) (i k : Nat) : List Int := (heldsA th i ++ (th i).held.take k).map (·.1)
theorem seenL_next (th : Nat → TA) (i : Nat) : seenL th i (th i).held.length = seenL th (i + 1) 0 := by
  unfold seenL
  rw [List.take_length, List.take_zero, List.append_nil]
  rfl
theorem seenL_step (th : Nat → TA) (i : Nat) {k : Nat} (hk : k < (th i).held.length) : seenL th i (k + 1) = seenL th i k ++ [((th i).held.getD k (0, 0)).1] := by
  unfold seenL
  rw [List.take_add_one, List.getElem?_eq_getElem hk]
  rw [List.getD_eq_getElem?_getD, List.getElem?_eq_getElem hk]
  simp only [List.map_append, List.append_assoc, Option.toList, Option.getD, List.map_cons, List.map_nil]
theorem seenL_len (th : Nat → TA) {i k : Nat} (hi : i < 5) : (seenL th i k).length ≤ (heldsA th 5).length := by
  obtain ⟨r, e⟩ := heldsA_part th hi
  rw [e]
  simp only [seenL, List.length_map, List.length_append, List.length_take]
  omega
theorem seenL_not (th : Nat → TA) (hn : ((heldsA th 5).map (·.1)).Nodup) {i k : Nat} (hi : i < 5) (hk : k < (th i).held.length) : ((th i).held.getD k (0, 0)).1 ∉ seenL th i k := by
  obtain ⟨r, e⟩ := heldsA_part th hi
  have h2 : (th i).held = (th i).held.take k ++ ((th i).held.getD k (0, 0) :: (th i).held.drop (k + 1)) := by
    rw [List.getD_eq_getElem?_getD, List.getElem?_eq_getElem hk]
    simp
  rw [e] at hn
  intro hm
  unfold seenL at hm
  generalize (th i).held.getD k (0, 0) = x at *
  generalize (th i).held.take k = t at *
  rw [h2] at hn
  simp only [List.map_append, List.map_cons, List.append_assoc, List.cons_append] at hn hm
  rw [← List.append_assoc, List.nodup_append] at hn
  exact hn.2.2 _ hm _ (by simp) rfl
/-- Which slots have been seen. -/
def SeenAt (S0 : Nat) (D : List Int) (w : World) : Prop := ∃ cur, w.heap[S0]? = some (.cells cur 100 (0, 0)) ∧ cur.size = 256 ∧ ∀ j : Nat, j < 256 → cur[j]? = some (.bool (decide ((j : Int) ∈ D)))
theorem zero_seen : Tryd.zeroCells100 = Array.replicate 256 (.bool false) := by kernel_rfl
theorem SeenAt.new (w : World) : SeenAt w.heap.size [] (w.alloc (.cells Tryd.zeroCells100 100)) :=
  ⟨Tryd.zeroCells100, alloc_blk _ _, by rw [zero_seen]; simp, fun j hj => by rw [zero_seen, Array.getElem?_eq_getElem (by simpa using hj)]; simp⟩
section
variable {B p b G S0 : Nat} {D : List Int} {ly : Nat → LY} {th : Nat → TA} {M : MV} {w w' w0 : World}
theorem SeenAt.at_ (h : SeenAt S0 D w) {j : Nat} (hj : j < 256) : w.cell? ⟨S0, j, none⟩ = some (.bool (decide ((j : Int) ∈ D))) ∧ ∀ i, w.frozen? ⟨S0, i, none⟩ = false := by
  obtain ⟨cur, h1, h2, h3⟩ := h
  exact ⟨(cell_of_row w S0 j cur _ (0, 0) h1).trans (h3 j hj), fun i => by simp [World.frozen?, h1]⟩
theorem SeenAt.lt (h : SeenAt S0 D w) : S0 < w.heap.size := by
  obtain ⟨cur, h1, _⟩ := h
  exact (Array.getElem?_eq_some_iff.1 h1).1
theorem SeenAt.same (h : SeenAt S0 D w) (hs : w'.heap[S0]? = w.heap[S0]?) : SeenAt S0 D w' := by
  obtain ⟨cur, h1, h2⟩ := h
  exact ⟨cur, hs.trans h1, h2⟩
theorem SeenAt.put (h : SeenAt S0 D w) {z : Nat} (_ : z < 256) : SeenAt S0 (D ++ [(z : Int)]) (w.setCell ⟨S0, z, none⟩ (.bool true)) := by
  obtain ⟨cur, h1, h2, h3⟩ := h
  refine ⟨_, setCell_blk h1 z _, by simpa using h2, fun j hj => ?_⟩
  rw [Array.getElem?_setIfInBounds]
  by_cases e : z = j
  · subst e
    rw [if_pos rfl, if_pos (by omega)]
    simp
  · rw [if_neg e, h3 j hj]
    have : ¬ ((j : Int) = (z : Int)) := by omega
    simp [this]
/-- What live stands at: the memory's words as they were, some more steps; nothing else that was there has turned. -/
structure LvA (p b : Nat) (M : MV) (w : World) (S0 : Nat) (D : List Int) (wr : World) : Prop where
  mem : ∃ M', M'.V = M.V ∧ M'.s.st ≤ M.s.st + (D.length : Int) ∧ VX p b M' wr
  onl : Onl p b [] w wr
  seen : SeenAt S0 D wr
theorem LvA.tw (h : LvA p b M w S0 D w') (W : TW B p b G ly th M w) : ∃ M', M'.V = M.V ∧ TW B p b G ly th M' w' := by
  obtain ⟨M', e, _, F⟩ := h.mem
  exact ⟨M', e, W.onl F h.onl (by simp) (by simp) (by simp)⟩
theorem SeenAt.ne (h : SeenAt S0 D w) (F : VX p b M w) : S0 ≠ p ∧ S0 ≠ b := by
  obtain ⟨cur, h1, _⟩ := h
  exact F.ne (t := 100) (cs := cur.toList) (by decide) (by unfold Bq; simpa using h1)
end
def LiveP (p b : Nat) (M : MV) (n : Nat) (w : World) (e : Ending) (w' : World) : Prop := e = .returned (.bool true) ∧ ∃ M', M'.V = M.V ∧ M'.s.st ≤ M.s.st + (n : Int) ∧ VX p b M' w' ∧ Onl p b [] w w'
section
variable {B p b G n : Nat} {ly : Nat → LY} {th : Nat → TA} {M : MV} {w w' w0 : World}
set_option maxRecDepth 100000 in
set_option maxHeartbeats 8000000 in
theorem live_any (W : TW B p b G ly th M w) (hB : 1 < B) (hs : M.s.st < 900000) (hl : ∀ i, i < 5 → ∀ x ∈ (th i).held, (0 ≤ x.1 ∧ x.1 < 256) ∧ (maV M.V).hdr x.1 = headerW 1 x.2 ∧ 0 ≤ x.2 ∧ x.2 < 4294967296)
    (hn : ((heldsA th 5).map (·.1)).Nodup) (hlen : (heldsA th 5).length ≤ n) (hn1 : n ≤ 50000) :
    Calls Tryd.prog 23 #[.slice (some ⟨G, 0, none⟩) 5 5, .pointer (some ⟨p, 0, none⟩)] w (LiveP p b M n w) := by
  have HW := Lib.hid W
  have HH := Lib.hid hl
  have HN := Lib.hid hn
  have HLEN := Lib.hid hlen
  have hs0 := SeenAt.new w
  have hbe : Below w.heap.size w (w.alloc (.cells Tryd.zeroCells100 100)) := (Below.refl _ _).alloc (Nat.le_refl _) _
  have HX := Lib.hid (show LvA p b M w w.heap.size (seenL th 0 0) (w.alloc (.cells Tryd.zeroCells100 100)) from ⟨⟨M, rfl, by simp [seenL, heldsA], W.fm.below hbe⟩, .of_below hbe, hs0⟩)
  clear W hl hn hlen hs0 hbe
  go_enter Tryd.func23, Tryd.ntmps23
  go_upto_region 2 with (fail)
  have hS : w.heap.size ≤ w.heap.size := Nat.le_refl _
  revert HX
  generalize w.alloc (.cells Tryd.zeroCells100 100) = w1
  generalize hS0 : w.heap.size = S0
  intro HX
  have HS0 := Lib.hid hS0
  clear hS hS0
  go_wp2_with fail
  go_loopw [6] (fun j wr => ∃ i : Nat, i ≤ 5 ∧ j = .int .i64 (i : Int) ∧ Hid (LvA p b M w S0 (seenL th i 0) wr)) (fun j _ => 5 - (intOf j).toNat)
  case atStart => exact ⟨0, Nat.zero_le _, rfl, HX⟩
  case round =>
    clear HX
    obtain ⟨i, hi, rfl, HX⟩ := hrel
    have hge : (0 : Int) ≤ (i : Int) := by omega
    by_cases hlt : i < 5
    · have hlt' : (i : Int) < 5 := by omega
      go_wp2_with fail
      go_loopw [7] (fun j wr => ∃ k : Nat, k ≤ (th i).held.length ∧ j = .int .i64 (k : Int) ∧ Hid (LvA p b M w S0 (seenL th i k) wr)) (fun j _ => (th i).held.length - (intOf j).toNat)
      case atStart => exact ⟨0, Nat.zero_le _, rfl, HX⟩
      case round =>
        clear HX
        obtain ⟨k, hk, rfl, HX⟩ := hrel
        rename World => w2
        have hkg : (0 : Int) ≤ (k : Int) := by omega
        obtain ⟨M2, hM2, W2⟩ := HX.out.tw HW.out
        have hcells := (W2.tl hlt).cells
        obtain ⟨c0, _, _, _⟩ := hcells
        rw [Nat.mul_comm 3 i] at c0
        obtain ⟨A, c, hv, _, _⟩ := W2.row i hlt
        have hr := W2.row i hlt
        rw [hv] at c0 hr
        by_cases hkl : k < (th i).held.length
        · obtain ⟨_, g, off, rfl, _, y0, y1, y2⟩ := hr.at_ hkl
          rw [Nat.mul_comm 3 k] at y0 y1 y2
          have hz := HH.out i hlt ((th i).held.getD k (0, 0)) (by rw [List.getD_eq_getElem?_getD, List.getElem?_eq_getElem hkl]; simp)
          have HSN := Lib.hid (seenL_not th HN.out hlt hkl)
          have HST := Lib.hid (seenL_step th i hkl)
          have HSL := Lib.hid (seenL_len th (k := k) hlt)
          have hkl' : (k : Int) < ((th i).held.length : Int) := by omega
          generalize (th i).held.getD k (0, 0) = x at y0 y1 y2 hz HSN HST
          obtain ⟨⟨x0, x1⟩, hx2, hx3, hx4⟩ := hz
          obtain ⟨z, hzz⟩ : ∃ z : Nat, x.1 = (z : Int) := ⟨x.1.toNat, by omega⟩
          rw [hzz] at y0 HSN HST hx2 x1
          have hz256 : z < 256 := by omega
          have hz0 : (0 : Int) ≤ (z : Int) := by omega
          generalize x.2 = gg at y1 hx2 hx3 hx4
          clear hzz x0 hv hr
          generalize hml : (th i).held.length = m at *
          have hmem := HX.out.mem
          obtain ⟨M3, hM3, hst3, F3⟩ := hmem
          have hseen := HX.out.seen
          have honl := HX.out.onl
          have hbe : Below w2.heap.size w2 (w2.alloc (.cells #[.int .i64 z, .int .u32 gg, .bool false] 34)) := (Below.refl _ _).alloc (Nat.le_refl _) _
          have hr8 : Bq w2.heap.size 34 [.int .i64 z, .int .u32 gg, .bool false] (w2.alloc (.cells #[.int .i64 z, .int .u32 gg, .bool false] 34)) := Bq.new _ _ _
          have hs3 : SeenAt S0 (seenL th i k) (w2.alloc (.cells #[.int .i64 z, .int .u32 gg, .bool false] 34)) := hseen.same (hbe.block S0 hseen.lt)
          have x0 := (hs3.at_ hz256).1
          rw [decide_eq_false HSN.out] at x0
          have x1' := (hs3.at_ hz256).2 z
          have hSp := hs3.ne (F3.below hbe)
          have hS0 := HS0.out
          have h1w : 1 < S0 := by have := HW.out.fm.lt; have := HW.out.pB; omega
          have hr8S : w2.heap.size ≠ S0 := by have := hseen.lt; omega
          have HF4 := Lib.hid ((F3.below hbe).setQ hSp.1 hSp.2 h1w z (.bool true))
          have HS4 := Lib.hid (hs3.put hz256)
          have HO4 := Lib.hid (show Onl p b [] w ((w2.alloc (.cells #[.int .i64 z, .int .u32 gg, .bool false] 34)).setCell ⟨S0, z, none⟩ (.bool true)) from (honl.trans (.of_below hbe)).past (E := [S0]) (Onl.setCell _ (by simp) z (.bool true)) (fun x hx => by rw [List.mem_singleton.1 hx]; omega))
          have HR8 := Lib.hid (hr8.setO hr8S z (.bool true))
          have HST3 := Lib.hid hst3
          have HHD := Lib.hid (show M3.V (adH (z : Int)) = headerW 1 gg by rw [hM3]; exact (ma_hdr (V := M.V) ⟨hz0, x1⟩).symm.trans hx2)
          have HM3 := Lib.hid hM3
          clear hM2 W2 F3 hseen honl hbe hr8 hs3 hSp hS0 hx2 hst3 hM3 HX hr8S
          go_upto_region 12 with (fail)
          revert HF4 HS4 HO4 HR8
          generalize (w2.alloc (.cells #[.int .i64 z, .int .u32 gg, .bool false] 34)).setCell ⟨S0, z, none⟩ (.bool true) = w4
          generalize w2.heap.size = r8
          intro HF4 HS4 HO4 HR8
          clear x0 x1' c0 y0 y1 y2
          have hst4 : M3.s.st < 1000000 := by
            have h1 := HST3.out
            have h2 := HSL.out
            have h3 := HLEN.out
            omega
          have hcall := header8_any (s := (z : Int)) HF4.out hst4 ⟨hz0, x1⟩
          rw [HHD.out, (stS_of (s := 1) (by decide) (by decide) hx3 hx4).1, (stS_of (s := 1) (by decide) (by decide) hx3 hx4).2] at hcall
          have hq3 := Bq.s3 HR8.out
          obtain ⟨f0, f1, f2, _, _, _⟩ := hq3
          go_wp2_with fail
          ((with_reducible refine hcall.mono ?_); rintro e w5 ⟨rfl, F5, h5⟩)
          have HR5 := Lib.hid (HR8.out.onl (Onl.of_only (E := []) h5) (HF4.out.ne (by decide) HR8.out).1 (HF4.out.ne (by decide) HR8.out).2 (by simp))
          have HS5 := Lib.hid (HS4.out.same (h5.block S0 HS4.out.lt (HS4.out.ne HF4.out).1 (HS4.out.ne HF4.out).2))
          have HX5 := Lib.hid (show LvA p b M w S0 (seenL th i (k + 1)) w5 from ⟨⟨ldM M3 (adH (z : Int)), HM3.out, by
            have h1 := HST3.out
            rw [HST.out, List.length_append]
            show M3.s.st + 1 ≤ _
            simp only [List.length_cons, List.length_nil]
            push_cast
            omega, F5⟩, HO4.out.trans (.of_only h5), by rw [HST.out]; exact HS5.out⟩)
          clear f0 f1 f2 hcall F5 h5 HS5 HS4 HO4 HF4 HR8
          have hq3 := Bq.s3 HR5.out
          obtain ⟨f0, f1, f2, _, _, _⟩ := hq3
          go_wp2_with fail
          go_roundw
          case rel => exact ⟨k + 1, by omega, by go_num, HX5⟩
          case measure => simp [intOf]; omega
        · have hkl' : ((th i).held.length : Int) ≤ (k : Int) := by omega
          have hkm : k = (th i).held.length := by omega
          have hx := HX.out
          rw [hkm, seenL_next] at hx
          have HX5 := Lib.hid hx
          clear HX hx hkm hv hr W2 hM2
          generalize (th i).held.length = m at *
          go_wp2_with fail
          go_roundw
          case rel => exact ⟨i + 1, by omega, by go_num, HX5⟩
          case measure => simp [intOf]; omega
    · have hi5 : i = 5 := by omega
      have hge5 : (5 : Int) ≤ (i : Int) := by omega
      have hx := HX.out
      rw [hi5] at hx
      have HX5 := Lib.hid hx
      clear HX hx hi5
      go_wp2_with fail
      go_ret
      obtain ⟨M3, h1, h2, h3⟩ := HX5.out.mem
      refine ⟨rfl, M3, h1, ?_, h3, HX5.out.onl⟩
      have h4 := HLEN.out
      have h5 : (seenL th 5 0).length = (heldsA th 5).length := by simp [seenL]
      omega
end
end Go.Proofs.YtlcbinckbkdgdaaDoor
namespace Go.Proofs.YtlcbinckbkdgdaaDoor
open Go.RowKit Go.Maps

section
variable {p b q c c' : Nat} {M : MV} {S : List Int} {T : Int} {w w' wr W : World}
/-- The memory's words are as they were, behind at most c more steps; nothing that was there has turned. -/
structure LmA (p b : Nat) (M : MV) (w : World) (c : Nat) (wr : World) : Prop where
  mem : ∃ M', M'.V = M.V ∧ M'.s.st ≤ M.s.st + (c : Int) ∧ VX p b M' wr
  onl : Onl p b [] w wr
theorem LmA.start (F : VX p b M w) : LmA p b M w 0 w := ⟨⟨M, rfl, by omega, F⟩, .refl _⟩
theorem LmA.below (h : LmA p b M w c wr) (hb : Below wr.heap.size wr w') : LmA p b M w c w' := by
  obtain ⟨⟨M', h1, h2, F⟩, ho⟩ := h
  exact ⟨⟨M', h1, h2, F.below hb⟩, ho.trans (.of_below hb)⟩
theorem LmA.mono (h : LmA p b M w c wr) (hc : c ≤ c') : LmA p b M w c' wr := by
  obtain ⟨⟨M', h1, h2, F⟩, ho⟩ := h
  exact ⟨⟨M', h1, by omega, F⟩, ho⟩
theorem LmA.lay (h : LmA p b M w c wr) : Lay wr := by obtain ⟨⟨M', h1, h2, F⟩, ho⟩ := h; exact F.lay
/-- .. a word is looked at. -/
theorem LmA.load (h : LmA p b M w c wr) (hs : M.s.st + (c : Int) < 1000000) (x : Ad) :
    Calls Tryd.prog 27 #[.pointer (some ⟨p, 0, none⟩), .agg #[.int .u8 x.k, .int .i64 x.a, .int .i64 x.f]] wr fun e w' => e = .returned (.int .u64 (M.V x)) ∧ LmA p b M w (c + 1) w' ∧ Only p b wr w' := by
  obtain ⟨⟨M', h1, h2, F⟩, ho⟩ := h
  refine (F.load (by omega) x).mono ?_
  rintro e w' ⟨rfl, F', k⟩
  refine ⟨by rw [h1], ⟨⟨ldM M' x, h1, ?_, F'⟩, ho.trans (.of_only k)⟩, k⟩
  show M'.s.st + 1 ≤ _
  push_cast
  omega
theorem LmA.u64 (h : LmA p b M w c wr) (x : Ad) : U64 (M.V x) := by
  obtain ⟨⟨M', h1, h2, F⟩, ho⟩ := h
  rw [← h1]
  exact F.u64 x
theorem LmA.ne (h : LmA p b M w c wr) {t : TypeId} {cs : Array Value} {g : Nat} (ht : t ≠ 90) (k : wr.heap[g]? = some (.cells cs t (0, 0))) : g ≠ p ∧ g ≠ b := by
  obtain ⟨⟨M', h1, h2, F⟩, ho⟩ := h
  exact F.ne (cs := cs.toList) ht (by unfold Bq; simpa using k)
theorem own_only {base : Nat} {e : TypeId} {size : Nat} {v : Value} {m : Nat} {xs : List Value} (h : LmA p b M w c wr) (ho : wr.ownsRow base e size v m xs) (he : e ≠ 90) (hk : Only p b wr w') : w'.ownsRow base e size v m xs := by
  rcases ho.2 with h2 | ⟨g, cap, cur, hv, hg, hh, r⟩
  · exact ⟨ho.1, .inl h2⟩
  · obtain ⟨n1, n2⟩ := h.ne he hh
    exact ⟨ho.1, .inr ⟨g, cap, cur, hv, hg, (hk.block g (Array.getElem?_eq_some_iff.1 hh).1 n1 n2).trans hh, r⟩⟩
/-- .. past an append to a row of the call's own. -/
theorem LmA.grown (h : LmA p b M w c wr) {e : TypeId} {size : Nat} {v : Value} {m : Nat} {xs : List Value} (ho : wr.ownsRow w.heap.size e size v m xs) (he : e ≠ 90) (hg : wr.grownBy w' v.ownBlock) (h1 : 1 < w.heap.size) : LmA p b M w c w' := by
  have hne : ∀ g, v.ownBlock = some g → (g ≠ p ∧ g ≠ b) ∧ w.heap.size ≤ g := by
    intro g hgv
    rcases ho.2 with ⟨rfl, _⟩ | ⟨g', cap, cur, rfl, hb', hh, _⟩
    · simp [Value.ownBlock] at hgv
    · simp [Value.ownBlock] at hgv
      subst hgv
      exact ⟨h.ne he hh, hb'⟩
  obtain ⟨⟨M', a1, a2, F⟩, hon⟩ := h
  have key : ∀ k, k < wr.heap.size → (∀ g, v.ownBlock = some g → g ≠ k) → w'.heap[k]? = wr.heap[k]? := fun k hk hx => hg.block k hk (fun e => hx k e.symm rfl)
  have hlt := F.lt
  refine ⟨⟨M', a1, a2, F.keep hg.size (key p hlt.1 fun g e => (hne g e).1.1) (key b hlt.2 fun g e => (hne g e).1.2) (key _ F.lay.1 fun g e => by have := (hne g e).2; omega) (key _ F.laym.1 fun g e => by have := (hne g e).2; omega)⟩, ⟨hg.os.trans hon.os, hg.tape.trans hon.tape, hg.output.trans hon.output, Nat.le_trans hon.size hg.size, fun k hk h2 h3 h4 => (key k (Nat.lt_of_lt_of_le hk hon.size) fun g e => by have := (hne g e).2; omega).trans (hon.block k hk h2 h3 h4)⟩⟩
theorem ch_mid {lk : Int → Int} {x : Int} {r : List Int} : ∀ {a : List Int}, Ch lk (a ++ x :: r) → 0 ≤ x ∧ x < 256 ∧ wSlot (lk x) = topOf r
  | [], h => h.1
  | _ :: _, h => ch_mid h.2
end
def lenV : Value → Nat
  | .slice _ n _ => n
  | _ => 0
theorem info_int : (Tryd.prog.info? 3).map (fun i => (i.zero, i.size, i.bytes)) = some (some (.int .i64 0), 1, 8) := by kernel_rfl
theorem cells_newL (w : World) (xs : List Value) (t : TypeId) : ∀ j u, xs[j]? = some u → (w.alloc (.cells xs.toArray t)).cell? ((⟨w.heap.size, 0, none⟩ : Addr).add j) = some u := by
  intro j u hj
  by_cases h : j = 0
  · subst h
    simp [Addr.add, hj]
  · simp [Addr.add, h, hj]
def ListedP (p b : Nat) (M : MV) (S : List Int) (W : World) (e : Ending) (w' : World) : Prop := ∃ v, e = .returned (.tuple #[v, .bool true]) ∧ w'.ownsRow W.heap.size 3 1 v S.length (S.map iV) ∧ LmA p b M W 100 w'
set_option maxRecDepth 100000 in
set_option maxHeartbeats 4000000 in
theorem listed_any (p b : Nat) (M : MV) (S : List Int) (T : Int) (W : World) (F : VX p b M W) (stk : Stk (maV M.V).ms S T) (hs : M.s.st < 900000) (hlen : S.length ≤ 60) : Calls Tryd.prog 41 #[.pointer (some ⟨p, 0, none⟩)] W (ListedP p b M S W) := by
  obtain ⟨i0, hi0, hz0, hz1, hz2⟩ := info_parts info_int
  have h1W : 1 < W.heap.size := by have := F.lay.1; have := F.laym.1; omega
  have HF := Lib.hid (LmA.start F)
  have htop : wSlot (M.V adF) = topOf S := stk.slotM
  have HST := Lib.hid stk
  have HLEN := Lib.hid hlen
  have hld := HF.out.load (by omega) adF
  rw [show (adF.k = 0) from rfl, show (adF.a = 0) from rfl, show (adF.f = 0) from rfl] at hld
  clear F stk hlen
  go_enter Tryd.func41, Tryd.ntmps41
  go_wp2_with fail
  ((with_reducible refine hld.mono ?_); rintro e w1 ⟨rfl, s1, k1⟩)
  have hhd := asHead_any (M.V adF) w1 s1.lay (s1.u64 adF)
  rw [htop] at hhd
  have HS1 := Lib.hid s1
  have hsz1 := k1.size
  clear s1 k1 HF hld htop
  go_wp2_with fail
  ((with_reducible refine hhd.mono ?_); rintro e w2 ⟨rfl, j, rfl⟩)
  have HX := Lib.hid (show Below w1.heap.size w1 (w1.drewN j) from below_drewN' (Below.refl _ _) j)
  have HS2 := Lib.hid (HS1.out.below HX.out)
  have hsz2 : W.heap.size ≤ (w1.drewN j).heap.size := Nat.le_trans hsz1 HX.out.size
  clear hhd HX HS1 hsz1
  revert HS2 hsz2
  generalize w1.drewN j = w2
  intro HS2 hsz2
  go_wp2_with fail
  go_loopw [4, 5] (fun v j wr => ∃ a r, Hid (S = a ++ r) ∧ j = .int .i64 (topOf r) ∧ Hid (wr.ownsRow W.heap.size 3 1 v a.length (a.map iV)) ∧ Hid (LmA p b M W (1 + a.length) wr) ∧ W.heap.size ≤ wr.heap.size) (fun v _ _ => S.length - lenV v)
  case atStart => exact ⟨[], S, Lib.hid rfl, rfl, Lib.hid (World.ownsRow_nil _ _ _ _), HS2, hsz2⟩
  case round =>
    clear HS2 hsz2
    obtain ⟨a, r, HE, rfl, HO, HS2, hsz2⟩ := hrel
    obtain ⟨A, c, rfl, hnc, hcm, _⟩ := own_slice HO.out
    cases r with
    | nil =>
      have HE2 := HE.out
      rw [List.append_nil] at HE2
      rw [show topOf ([] : List Int) = -1 from rfl]
      have HEE := Lib.hid HE2
      clear HE HE2
      go_wp2_with fail
      go_ret2
      have e := HEE.out
      subst e
      exact ⟨_, rfl, HO.out, HS2.out.mono (by have := HLEN.out; omega)⟩
    | cons x r =>
      rw [show topOf (x :: r) = x from rfl]
      have hxx : 0 ≤ x ∧ x < 256 ∧ wSlot ((maV M.V).ms.lk x) = topOf r := by
        have h := HST.out.ch
        rw [HE.out] at h
        exact ch_mid h
      obtain ⟨hx0, hx1, hx2⟩ := hxx
      rw [ma_lk ⟨hx0, hx1⟩] at hx2
      have HX2 := Lib.hid hx2
      clear hx2
      have hal : a.length < 60 := by
        have h1 := HLEN.out
        rw [HE.out, List.length_append, List.length_cons] at h1
        omega
      have HO2 := Lib.hid (HO.out.alloc (.cells #[.int .i64 x] 3))
      have HA := Lib.hid (show Below wr.heap.size wr (wr.alloc (.cells #[.int .i64 x] 3)) from (Below.refl _ _).alloc (Nat.le_refl _) _)
      have HC2 := Lib.hid (cells_newL wr [.int .i64 x] 3)
      go_wp2_with (at_builtin; go_loud (refine wpList_append_own _ rfl (.tmp 20) (.tmp 22) _ rfl W.heap.size 3 i0 _ 1 8 Tryd.underlying59 hi0 hz0 hz1 hz2 rfl (by decide) (.slice A a.length c) a.length (a.map iV) rfl HO2.out ⟨wr.heap.size, 0, none⟩ 1 1 [.int .i64 x] rfl rfl HC2.out (fun u hu => by rw [List.mem_singleton.1 hu]; rfl) (by unfold maxLen; omega) (by omega) (by have := HA.out.size; omega) ?_; intro v' w4 hown' hgrow _; obtain ⟨A', c2, rfl, _, _, _⟩ := own_slice hown'; have HO4 := Lib.hid hown'; have HG := Lib.hid hgrow; have HS4 := Lib.hid ((HS2.out.below HA.out).grown HO2.out (by decide) HG.out h1W); clear hown' hgrow))
      have hsz4 : W.heap.size ≤ w4.heap.size := HS4.out.onl.size
      clear HO HO2 HA HC2 HS2 HG
      have hld := HS4.out.load (by omega) (adS x)
      rw [(adS_at (slot_i64 ⟨hx0, hx1⟩)).1, (adS_at (slot_i64 ⟨hx0, hx1⟩)).2.1, (adS_at (slot_i64 ⟨hx0, hx1⟩)).2.2] at hld
      ((with_reducible refine hld.mono ?_); rintro e w5 ⟨rfl, s6, k6⟩)
      have hhd := asHead_any (M.V (adS x)) w5 s6.lay (s6.u64 _)
      rw [HX2.out] at hhd
      have HR6 := Lib.hid (own_only HS4.out HO4.out (by decide) k6)
      have HS6 := Lib.hid s6
      have hsz6 : W.heap.size ≤ w5.heap.size := s6.onl.size
      clear s6 k6 HS4 HO4 hld
      go_wp2_with fail
      ((with_reducible refine hhd.mono ?_); rintro e w7 ⟨rfl, j, rfl⟩)
      have HX := Lib.hid (show Below w5.heap.size w5 (w5.drewN j) from below_drewN' (Below.refl _ _) j)
      have HS7 := Lib.hid (HS6.out.below HX.out)
      have HR7 := Lib.hid (own_low HR6.out HX.out)
      have hsz7 : W.heap.size ≤ (w5.drewN j).heap.size := Nat.le_trans hsz6 HX.out.size
      go_wp2_with fail
      go_roundw
      case rel => exact ⟨a ++ [x], r, Lib.hid (by rw [HE.out]; simp), rfl, Lib.hid (by rw [List.length_append, List.map_append]; exact HR7.out), Lib.hid (HS7.out.mono (by rw [List.length_append]; simp; omega)), hsz7⟩
      case measure =>
        have hsl : a.length < S.length := by rw [HE.out, List.length_append, List.length_cons]; omega
        simp only [lenV]
        omega
end Go.Proofs.YtlcbinckbkdgdaaDoor
