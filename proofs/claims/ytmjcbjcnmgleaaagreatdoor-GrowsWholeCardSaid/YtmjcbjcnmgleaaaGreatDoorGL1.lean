/-
  The slots of the list, in order; a look at the memory turns none of its words; condition: the list lies as it says.
-/
import Derived.Test.YtmjcbjcnmgleaaaGreatDoorGP14
import Derived.Test.YtmjcbjcnmgleaaaGreatDoorF7
namespace Go.Proofs.YtmjcbjcnmgleaaaGreatDoor
open Go.RowKit Go.Maps

section
variable {p b q c c' : Nat} {M : MV} {S : List Int} {T : Int} {w w' wr W : World}
/-- The memory's words are as they were, behind at most c more steps; nothing that was there has turned. -/
structure LmA (p b : Nat) (M : MV) (w : World) (c : Nat) (wr : World) : Prop where
  mem : ∃ M', M'.V = M.V ∧ M'.s.st ≤ M.s.st + (c : Int) ∧ VX p b M' wr
  onl : Onl p b [] w wr
theorem LmA.start (F : VX p b M w) : LmA p b M w 0 w := ⟨⟨M, rfl, by omega, F⟩, .refl _⟩
theorem LmA.below (h : LmA p b M w c wr) (hb : Below wr.heap.size wr w') : LmA p b M w c w' := by
  obtain ⟨⟨M', h1, h2, F⟩, ho⟩ := h
  exact ⟨⟨M', h1, h2, F.below hb⟩, ho.trans (.of_below hb)⟩
theorem LmA.mono (h : LmA p b M w c wr) (hc : c ≤ c') : LmA p b M w c' wr := by
  obtain ⟨⟨M', h1, h2, F⟩, ho⟩ := h
  exact ⟨⟨M', h1, by omega, F⟩, ho⟩
theorem LmA.lay (h : LmA p b M w c wr) : Lay wr := by obtain ⟨⟨M', h1, h2, F⟩, ho⟩ := h; exact F.lay
/-- .. a word is looked at. -/
theorem LmA.load (h : LmA p b M w c wr) (hs : M.s.st + (c : Int) < 1000000) (x : Ad) :
    Calls Tryz.prog 60 #[.pointer (some ⟨p, 0, none⟩), .agg #[.int .u8 x.k, .int .i64 x.a, .int .i64 x.f]] wr fun e w' => e = .returned (.int .u64 (M.V x)) ∧ LmA p b M w (c + 1) w' ∧ Only p b wr w' := by
  obtain ⟨⟨M', h1, h2, F⟩, ho⟩ := h
  refine (F.load (by omega) x).mono ?_
  rintro e w' ⟨rfl, F', k⟩
  refine ⟨by rw [h1], ⟨⟨ldM M' x, h1, ?_, F'⟩, ho.trans (.of_only k)⟩, k⟩
  show M'.s.st + 1 ≤ _
  push_cast
  omega
theorem LmA.u64 (h : LmA p b M w c wr) (x : Ad) : U64 (M.V x) := by
  obtain ⟨⟨M', h1, h2, F⟩, ho⟩ := h
  rw [← h1]
  exact F.u64 x
theorem LmA.ne (h : LmA p b M w c wr) {t : TypeId} {cs : Array Value} {g : Nat} (ht : t ≠ 121) (k : wr.heap[g]? = some (.cells cs t (0, 0))) : g ≠ p ∧ g ≠ b := by
  obtain ⟨⟨M', h1, h2, F⟩, ho⟩ := h
  exact F.ne (cs := cs.toList) ht (by unfold Bq; simpa using k)
theorem own_only {base : Nat} {e : TypeId} {size : Nat} {v : Value} {m : Nat} {xs : List Value} (h : LmA p b M w c wr) (ho : wr.ownsRow base e size v m xs) (he : e ≠ 121) (hk : Only p b wr w') : w'.ownsRow base e size v m xs := by
  rcases ho.2 with h2 | ⟨g, cap, cur, hv, hg, hh, r⟩
  · exact ⟨ho.1, .inl h2⟩
  · obtain ⟨n1, n2⟩ := h.ne he hh
    exact ⟨ho.1, .inr ⟨g, cap, cur, hv, hg, (hk.block g (Array.getElem?_eq_some_iff.1 hh).1 n1 n2).trans hh, r⟩⟩
/-- .. past an append to a row of the call's own. -/
theorem LmA.grown (h : LmA p b M w c wr) {e : TypeId} {size : Nat} {v : Value} {m : Nat} {xs : List Value} (ho : wr.ownsRow w.heap.size e size v m xs) (he : e ≠ 121) (hg : wr.grownBy w' v.ownBlock) (h1 : 1 < w.heap.size) : LmA p b M w c w' := by
  have hne : ∀ g, v.ownBlock = some g → (g ≠ p ∧ g ≠ b) ∧ w.heap.size ≤ g := by
    intro g hgv
    rcases ho.2 with ⟨rfl, _⟩ | ⟨g', cap, cur, rfl, hb', hh, _⟩
    · simp [Value.ownBlock] at hgv
    · simp [Value.ownBlock] at hgv
      subst hgv
      exact ⟨h.ne he hh, hb'⟩
  obtain ⟨⟨M', a1, a2, F⟩, hon⟩ := h
  have key : ∀ k, k < wr.heap.size → (∀ g, v.ownBlock = some g → g ≠ k) → w'.heap[k]? = wr.heap[k]? := fun k hk hx => hg.block k hk (fun e => hx k e.symm rfl)
  have hlt := F.lt
  refine ⟨⟨M', a1, a2, F.keep hg.size (key p hlt.1 fun g e => (hne g e).1.1) (key b hlt.2 fun g e => (hne g e).1.2) (key _ F.lay.1 fun g e => by have := (hne g e).2; omega) (key _ F.laym.1 fun g e => by have := (hne g e).2; omega)⟩, ⟨hg.os.trans hon.os, hg.tape.trans hon.tape, hg.output.trans hon.output, Nat.le_trans hon.size hg.size, fun k hk h2 h3 h4 => (key k (Nat.lt_of_lt_of_le hk hon.size) fun g e => by have := (hne g e).2; omega).trans (hon.block k hk h2 h3 h4)⟩⟩
theorem ch_mid {lk : Int → Int} {x : Int} {r : List Int} : ∀ {a : List Int}, Ch lk (a ++ x :: r) → 0 ≤ x ∧ x < 256 ∧ wSlot (lk x) = topOf r
  | [], h => h.1
  | _ :: _, h => ch_mid h.2
end
def lenV : Value → Nat
  | .slice _ n _ => n
  | _ => 0
theorem info_intL : (Tryz.prog.info? 3).map (fun i => (i.zero, i.size, i.bytes)) = some (some (.int .i64 0), 1, 8) := by kernel_rfl
theorem cells_newL (w : World) (xs : List Value) (t : TypeId) : ∀ j u, xs[j]? = some u → (w.alloc (.cells xs.toArray t)).cell? ((⟨w.heap.size, 0, none⟩ : Addr).add j) = some u := by
  intro j u hj
  by_cases h : j = 0
  · subst h
    simp [Addr.add, hj]
  · simp [Addr.add, h, hj]
def ListedP (p b : Nat) (M : MV) (S : List Int) (W : World) (e : Ending) (w' : World) : Prop := ∃ v, e = .returned (.tuple #[v, .bool true]) ∧ w'.ownsRow W.heap.size 3 1 v S.length (S.map iV) ∧ LmA p b M W 100 w'
set_option maxRecDepth 100000 in
set_option maxHeartbeats 4000000 in
theorem listed_any (p b : Nat) (M : MV) (S : List Int) (T : Int) (W : World) (F : VX p b M W) (stk : Stk (maV M.V).ms S T) (hs : M.s.st < 900000) (hlen : S.length ≤ 60) : Calls Tryz.prog 26 #[.pointer (some ⟨p, 0, none⟩)] W (ListedP p b M S W) := by
  obtain ⟨i0, hi0, hz0, hz1, hz2⟩ := info_parts info_intL
  have h1W : 1 < W.heap.size := by have := F.lay.1; have := F.laym.1; omega
  have HF := Lib.hid (LmA.start F)
  have htop : wSlot (M.V adF) = topOf S := stk.slotM
  have HST := Lib.hid stk
  have HLEN := Lib.hid hlen
  have hld := HF.out.load (by omega) adF
  rw [show (adF.k = 0) from rfl, show (adF.a = 0) from rfl, show (adF.f = 0) from rfl] at hld
  clear F stk hlen
  go_enter Tryz.func26, Tryz.ntmps26
  go_wp2_with fail
  ((with_reducible refine hld.mono ?_); rintro e w1 ⟨rfl, s1, k1⟩)
  have hhd := asHead_any (M.V adF) w1 s1.lay (s1.u64 adF)
  rw [htop] at hhd
  have HS1 := Lib.hid s1
  have hsz1 := k1.size
  clear s1 k1 HF hld htop
  go_wp2_with fail
  ((with_reducible refine hhd.mono ?_); rintro e w2 ⟨rfl, j, rfl⟩)
  have HX := Lib.hid (show Below w1.heap.size w1 (w1.drewN j) from below_drewN' (Below.refl _ _) j)
  have HS2 := Lib.hid (HS1.out.below HX.out)
  have hsz2 : W.heap.size ≤ (w1.drewN j).heap.size := Nat.le_trans hsz1 HX.out.size
  clear hhd HX HS1 hsz1
  revert HS2 hsz2
  generalize w1.drewN j = w2
  intro HS2 hsz2
  go_wp2_with fail
  go_loopw [4, 5] (fun v j wr => ∃ a r, Hid (S = a ++ r) ∧ j = .int .i64 (topOf r) ∧ Hid (wr.ownsRow W.heap.size 3 1 v a.length (a.map iV)) ∧ Hid (LmA p b M W (1 + a.length) wr) ∧ W.heap.size ≤ wr.heap.size) (fun v _ _ => S.length - lenV v)
  case atStart => exact ⟨[], S, Lib.hid rfl, rfl, Lib.hid (World.ownsRow_nil _ _ _ _), HS2, hsz2⟩
  case round =>
    clear HS2 hsz2
    obtain ⟨a, r, HE, rfl, HO, HS2, hsz2⟩ := hrel
    obtain ⟨A, c, rfl, hnc, hcm, _⟩ := own_slice HO.out
    cases r with
    | nil =>
      have HE2 := HE.out
      rw [List.append_nil] at HE2
      rw [show topOf ([] : List Int) = -1 from rfl]
      have HEE := Lib.hid HE2
      clear HE HE2
      go_wp2_with fail
      go_ret2
      have e := HEE.out
      subst e
      exact ⟨_, rfl, HO.out, HS2.out.mono (by have := HLEN.out; omega)⟩
    | cons x r =>
      rw [show topOf (x :: r) = x from rfl]
      have hxx : 0 ≤ x ∧ x < 256 ∧ wSlot ((maV M.V).ms.lk x) = topOf r := by
        have h := HST.out.ch
        rw [HE.out] at h
        exact ch_mid h
      obtain ⟨hx0, hx1, hx2⟩ := hxx
      rw [ma_lk ⟨hx0, hx1⟩] at hx2
      have HX2 := Lib.hid hx2
      clear hx2
      have hal : a.length < 60 := by
        have h1 := HLEN.out
        rw [HE.out, List.length_append, List.length_cons] at h1
        omega
      have HO2 := Lib.hid (HO.out.alloc (.cells #[.int .i64 x] 3))
      have HA := Lib.hid (show Below wr.heap.size wr (wr.alloc (.cells #[.int .i64 x] 3)) from (Below.refl _ _).alloc (Nat.le_refl _) _)
      have HC2 := Lib.hid (cells_newL wr [.int .i64 x] 3)
      go_wp2_with (at_builtin; go_loud (refine wpList_append_own _ rfl (.tmp 20) (.tmp 22) _ rfl W.heap.size 3 i0 _ 1 8 Tryz.underlying61 hi0 hz0 hz1 hz2 rfl (by decide) (.slice A a.length c) a.length (a.map iV) rfl HO2.out ⟨wr.heap.size, 0, none⟩ 1 1 [.int .i64 x] rfl rfl HC2.out (fun u hu => by rw [List.mem_singleton.1 hu]; rfl) (by unfold maxLen; omega) (by omega) (by have := HA.out.size; omega) ?_; intro v' w4 hown' hgrow _; obtain ⟨A', c2, rfl, _, _, _⟩ := own_slice hown'; have HO4 := Lib.hid hown'; have HG := Lib.hid hgrow; have HS4 := Lib.hid ((HS2.out.below HA.out).grown HO2.out (by decide) HG.out h1W); clear hown' hgrow))
      have hsz4 : W.heap.size ≤ w4.heap.size := HS4.out.onl.size
      clear HO HO2 HA HC2 HS2 HG
      have hld := HS4.out.load (by omega) (adS x)
      rw [(adS_at (slot_i64 ⟨hx0, hx1⟩)).1, (adS_at (slot_i64 ⟨hx0, hx1⟩)).2.1, (adS_at (slot_i64 ⟨hx0, hx1⟩)).2.2] at hld
      ((with_reducible refine hld.mono ?_); rintro e w5 ⟨rfl, s6, k6⟩)
      have hhd := asHead_any (M.V (adS x)) w5 s6.lay (s6.u64 _)
      rw [HX2.out] at hhd
      have HR6 := Lib.hid (own_only HS4.out HO4.out (by decide) k6)
      have HS6 := Lib.hid s6
      have hsz6 : W.heap.size ≤ w5.heap.size := s6.onl.size
      clear s6 k6 HS4 HO4 hld
      go_wp2_with fail
      ((with_reducible refine hhd.mono ?_); rintro e w7 ⟨rfl, j, rfl⟩)
      have HX := Lib.hid (show Below w5.heap.size w5 (w5.drewN j) from below_drewN' (Below.refl _ _) j)
      have HS7 := Lib.hid (HS6.out.below HX.out)
      have HR7 := Lib.hid (own_low HR6.out HX.out)
      have hsz7 : W.heap.size ≤ (w5.drewN j).heap.size := Nat.le_trans hsz6 HX.out.size
      go_wp2_with fail
      go_roundw
      case rel => exact ⟨a ++ [x], r, Lib.hid (by rw [HE.out]; simp), rfl, Lib.hid (by rw [List.length_append, List.map_append]; exact HR7.out), Lib.hid (HS7.out.mono (by rw [List.length_append]; simp; omega)), hsz7⟩
      case measure =>
        have hsl : a.length < S.length := by rw [HE.out, List.length_append, List.length_cons]; omega
        simp only [lenV]
        omega
end Go.Proofs.YtmjcbjcnmgleaaaGreatDoor
