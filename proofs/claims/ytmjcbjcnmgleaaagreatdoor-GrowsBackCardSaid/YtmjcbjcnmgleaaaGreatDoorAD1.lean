/-
  One actor alone, one segment mapped or not: what each call of the law does then; condition: the tables as laid, all lies as it says.
-/
import Derived.Test.YtmjcbjcnmgleaaaGreatDoorAC5
import Derived.Test.YtmjcbjcnmgleaaaGreatDoorAC4
import Derived.Test.YtmjcbjcnmgleaaaGreatDoorGP22
namespace Go.Proofs.YtmjcbjcnmgleaaaGreatDoor
open Go.RowKit Go.Maps

/-- One actor has h, m of them; segment n says sg, the others are mapped. -/
structure BkZ (W : World) (p b G up n : Nat) (h : List (Int × Int)) (m : Nat) (ly : Nat → LY) (c : Nat) (sg : Int) (M : MV) (w : World) : Prop where
  tw : TW 1 W.heap.size p b G ly (thB h) M w
  idl : ∃ S, Idl (8 * (up : Int)) 3 (thB h) S (100 + 600 * c) M
  sgn : (maV M.V).sst (n : Int) = sg
  sst : ∀ g : Nat, g < up → g ≠ n → (maV M.V).sst (g : Int) = 1
  st : M.s.st ≤ 100 + 600 * (c : Int)
  low : Below W.heap.size W w
  len : h.length = m
/-- .. the memory's words untold. -/
def BkY (W : World) (p b G up n : Nat) (h : List (Int × Int)) (m : Nat) (ly : Nat → LY) (c : Nat) (sg : Int) (w : World) : Prop := ∃ M, BkZ W p b G up n h m ly c sg M w
theorem hasN_pos {h : List (Int × Int)} {n : Int} (ha : 0 < hasN h n h.length) : ∃ x ∈ h, ofS x.1 = n := by
  unfold hasN at ha
  rw [List.take_length] at ha
  obtain ⟨x, hx⟩ := List.exists_mem_of_length_pos ha
  obtain ⟨h1, h2⟩ := List.mem_filter.1 hx
  exact ⟨x, h1, of_decide_eq_true h2⟩
theorem hasN_zero {h : List (Int × Int)} {n : Int} (ha : hasN h n h.length = 0) : ∀ x ∈ h, ofS x.1 ≠ n := by
  intro x hx e
  unfold hasN at ha
  rw [List.take_length] at ha
  have := List.length_eq_zero_iff.1 ha
  have hm : x ∈ h.filter fun x => decide (ofS x.1 = n) := List.mem_filter.2 ⟨hx, decide_eq_true e⟩
  rw [this] at hm
  exact absurd hm (by simp)
section
variable {W : World} {p b G up n m c k L : Nat} {h : List (Int × Int)} {ly : Nat → LY} {M : MV} {sg lk : Int} {w w' : World}
theorem BkS.z (Z : BkS W p b G up c h h ly M w) (hn : n < up) : BkZ W p b G up n h h.length ly c 1 M w :=
  ⟨Z.tw, Z.idl, by rw [Z.sst _ (by omega), if_pos (by omega)], fun g hg _ => by rw [Z.sst _ (by omega), if_pos (by omega)], Z.st, Z.low, rfl⟩
theorem BkZ.after (Z : BkZ W p b G up n h m ly c sg M w) (l : LmA p b M w k w') (hk : k ≤ 600) : BkY W p b G up n h m ly (c + 1) sg w' := by
  obtain ⟨M', e, e2, F⟩ := l.mem
  obtain ⟨S, I⟩ := Z.idl
  exact ⟨M', Z.tw.onl F l.onl (by simp) (by simp) (by simp), ⟨S, (I.mono (by omega)).same e⟩, by rw [e]; exact Z.sgn, fun g hg hn => by rw [e]; exact Z.sst g hg hn, by have := Z.st; push_cast; omega, below_onl Z.low l.onl Z.tw.pB Z.tw.bB (by simp), Z.len⟩
theorem BkZ.ends {sg2 : Int} {T1 : Nat} {S : List Int} {M' : MV} (Z : BkZ W p b G up n h m ly c sg M w) (I : Idl (8 * (up : Int)) 3 (thB h) S T1 M') (hT : T1 ≤ 100 + 600 * (c + 5)) (h1 : (maV M'.V).sst (n : Int) = sg2) (h2 : ∀ y, y ≠ (n : Int) → (maV M'.V).sst y = (maV M.V).sst y) (hs : M'.s.st ≤ M.s.st + 3000) (F : VX p b M' w') (O : Onl p b [] w w') : BkY W p b G up n h m ly (c + 5) sg2 w' :=
  ⟨M', Z.tw.onl F O (by simp) (by simp) (by simp), ⟨S, I.mono hT⟩, h1, fun g hg hn => by rw [h2 _ (by omega)]; exact Z.sst g hg hn, by have := Z.st; push_cast; omega, below_onl Z.low O Z.tw.pB Z.tw.bB (by simp), Z.len⟩
theorem BkY.listed1 (Y : BkY W p b G up n h m ly c 1 w) (hu : up ≤ 3) (hc : c ≤ 100) (hL : L + m = 8 * up) :
    Calls Tryz.prog 26 #[.pointer (some ⟨p, 0, none⟩)] w fun e w' => ∃ A c', e = .returned (.tuple #[.slice A L c', .bool true]) ∧ BkY W p b G up n h m ly (c + 1) 1 w' := by
  obtain ⟨M, Z⟩ := Y
  obtain ⟨S, I⟩ := Z.idl
  have hl := idl_all I hu (thB_no h) (thB_one h) fun g hg => if e : g = n then by rw [e]; exact Z.sgn else Z.sst g hg e
  have hl2 : S.length + h.length = 8 * up := hl
  have hm := Z.len
  have I2 := I
  obtain ⟨K, T, IK, _, _, _⟩ := I2
  refine (listed_any p b M S T w Z.tw.fm IK.G.stk (by have := Z.st; omega) (by omega)).mono ?_
  rintro e w' ⟨v, rfl, o, l⟩
  obtain ⟨A', c', rfl, _, _, _⟩ := own_slice o
  rw [show S.length = L by omega]
  exact ⟨A', c', rfl, Z.after l (by decide)⟩
theorem BkY.listed0 (Y : BkY W p b G up n h m ly c 0 w) (hu : up ≤ 3) (hnu : n < up) (hc : c ≤ 100) (hL : L + 8 + m = 8 * up) :
    Calls Tryz.prog 26 #[.pointer (some ⟨p, 0, none⟩)] w fun e w' => ∃ A c', e = .returned (.tuple #[.slice A L c', .bool true]) ∧ BkY W p b G up n h m ly (c + 1) 0 w' := by
  obtain ⟨M, Z⟩ := Y
  obtain ⟨S, I⟩ := Z.idl
  have hl := idl_but I hu (thB_no h) (thB_one h) hnu Z.sgn Z.sst
  have hl2 : S.length + 8 + h.length = 8 * up := hl
  have hm := Z.len
  have I2 := I
  obtain ⟨K, T, IK, _, _, _⟩ := I2
  refine (listed_any p b M S T w Z.tw.fm IK.G.stk (by have := Z.st; omega) (by omega)).mono ?_
  rintro e w' ⟨v, rfl, o, l⟩
  obtain ⟨A', c', rfl, _, _, _⟩ := own_slice o
  rw [show S.length = L by omega]
  exact ⟨A', c', rfl, Z.after l (by decide)⟩
theorem BkY.l8 (Y : BkY W p b G up n h m ly c 0 w) (hu : up ≤ 3) (hnu : n < up) : ∃ L8, L8 + 8 + m = 8 * up := by
  obtain ⟨M, Z⟩ := Y
  obtain ⟨S, I⟩ := Z.idl
  have hl := idl_but I hu (thB_no h) (thB_one h) hnu Z.sgn Z.sst
  have hl2 : S.length + 8 + h.length = 8 * up := hl
  exact ⟨S.length, by rw [← Z.len]; exact hl2⟩
theorem BkY.settled (Y : BkY W p b G up n h m ly c sg w) (hu : up ≤ 3) (h1 : 1 < W.heap.size) (hc : c ≤ 100) :
    Calls Tryz.prog 23 #[.pointer (some ⟨p, 0, none⟩), .slice (some ⟨G, 0, none⟩) 1 1, .int .i64 (up : Int)] w fun e w' => e = .returned (.bool true) ∧ BkY W p b G up n h m ly (c + 1) sg w' := by
  obtain ⟨M, Z⟩ := Y
  obtain ⟨S, I⟩ := Z.idl
  obtain ⟨K, T, IK, h0, _, _⟩ := I
  refine (settled_any Z.tw h1 (by have := Z.st; omega) IK.G.stk (IK.setQ rfl hu (by decide) (thB_no h) h0 (by decide) (fun k hk hk6 => thB_one h k (by omega) hk6)) (by decide)).mono ?_
  rintro e w' ⟨rfl, l⟩
  exact ⟨rfl, Z.after l (by decide)⟩
theorem BkY.seg (Y : BkY W p b G up n h m ly c sg w) (hu : up ≤ 3) (hnu : n < up) (hc : c ≤ 100) :
    Calls Tryz.prog 28 #[.pointer (some ⟨p, 0, none⟩), .int .i64 (n : Int)] w fun e w' => ∃ u, e = .returned (.tuple #[.int .u64 sg, .int .u64 u]) ∧ BkY W p b G up n h m ly (c + 1) sg w' := by
  obtain ⟨M, Z⟩ := Y
  refine (seg9_any Z.tw.fm (by have := Z.st; omega) (by omega)).mono ?_
  rintro e w' ⟨rfl, F, o⟩
  have hv := Z.sgn
  rw [ma_sst (by omega)] at hv
  rw [hv]
  exact ⟨_, rfl, Z.after (k := 2) ⟨⟨ldM (ldM M (adG (n : Int))) (adP (n : Int)), rfl, by show M.s.st + 1 + 1 ≤ _; push_cast; omega, F⟩, .of_only o⟩ (by decide)⟩
theorem BkZ.range (Z : BkZ W p b G up n h m ly c sg M w) (hu : up ≤ 3) : ∀ x ∈ h, 0 ≤ x.1 ∧ x.1 < 256 := by
  obtain ⟨S, I⟩ := Z.idl
  obtain ⟨K, T, IK, h0, _, _⟩ := I
  exact fun x hx => ((IK.setQ (nt := 1) rfl hu (by decide) (thB_no h) h0 (by decide) (fun k hk hk6 => thB_one h k (by omega) hk6)).hl 0 (by decide) x hx).1
theorem BkY.stays (Y : BkY W p b G up n h m ly c 1 w) (hu : up ≤ 3) (hnu : n < up) (hc : c ≤ 100) (hcase : lk ≤ 0 ∨ ∃ x ∈ h, ofS x.1 = (n : Int)) (hl : -9223372036854775808 ≤ lk ∧ lk ≤ 5) :
    Calls Tryz.prog 27 #[.pointer (some ⟨p, 0, none⟩), .int .i64 (n : Int), .int .i64 lk] w fun e w' => ∃ k : Nat, e = .returned (.tuple #[.int .i64 9, .int .i64 (k : Int)]) ∧ BkY W p b G up n h m ly (c + 5) 1 w' := by
  obtain ⟨M, Z⟩ := Y
  obtain ⟨S, I⟩ := Z.idl
  refine (shrunk_stays (by decide) Z.tw.fm I (thB_no h) (hcase.imp id fun ⟨x, hx, e⟩ => ⟨0, by decide, x, hx, by
    have hr := Z.range hu x hx
    unfold ofS at e
    rw [if_pos hr] at e
    exact e⟩) (by omega) hl Z.sgn (by omega) (by have := Z.st; omega)).mono ?_
  rintro e w' ⟨k, S', M', rfl, I', h1, h2, h3, F, O⟩
  exact ⟨k, rfl, Z.ends I' (by omega) h1 h2 (by omega) F O⟩
theorem BkY.goes (Y : BkY W p b G up n h m ly c 1 w) (hu : up ≤ 3) (hnu : n < up) (hc : c ≤ 100) (hcase : ∀ x ∈ h, ofS x.1 ≠ (n : Int)) (hl : 1 ≤ lk ∧ lk ≤ 5) :
    Calls Tryz.prog 27 #[.pointer (some ⟨p, 0, none⟩), .int .i64 (n : Int), .int .i64 lk] w fun e w' => ∃ k : Nat, e = .returned (.tuple #[.int .i64 0, .int .i64 (k : Int)]) ∧ BkY W p b G up n h m ly (c + 5) 0 w' := by
  obtain ⟨M, Z⟩ := Y
  obtain ⟨S, I⟩ := Z.idl
  refine (shrunk_goes (by decide) Z.tw.fm I (thB_no h) (fun k hk x hx e => by
    by_cases h0 : k = 0
    · subst h0
      have hr := Z.range hu x hx
      refine hcase x hx ?_
      unfold ofS
      rw [if_pos hr]
      exact e
    · rw [thB_one h k (by omega) hk] at hx
      simp at hx) (by omega) (by omega) hl Z.sgn (by omega) (by have := Z.st; omega)).mono ?_
  rintro e w' ⟨k, S', M', rfl, I', h1, h2, h3, F, O⟩
  exact ⟨k, rfl, Z.ends I' (by omega) h1 h2 (by omega) F O⟩
theorem BkY.none_ (Y : BkY W p b G up n h m ly c 0 w) (hu : up ≤ 3) (hnu : n < up) (hc : c ≤ 100) (hl : -9223372036854775808 ≤ lk ∧ lk < 9223372036854775808) :
    Calls Tryz.prog 27 #[.pointer (some ⟨p, 0, none⟩), .int .i64 (n : Int), .int .i64 lk] w fun e w' => ∃ k : Nat, e = .returned (.tuple #[.int .i64 6, .int .i64 (k : Int)]) ∧ BkY W p b G up n h m ly (c + 1) 0 w' := by
  obtain ⟨M, Z⟩ := Y
  have hv := Z.sgn
  rw [ma_sst (by omega)] at hv
  refine (shrunk_none Z.tw.fm (by omega) hl hv (by have := Z.st; omega)).mono ?_
  rintro e w' ⟨k, rfl, F, O⟩
  exact ⟨k, rfl, Z.after (k := 1) ⟨⟨ldM M (adG (n : Int)), rfl, by show M.s.st + 1 ≤ _; push_cast; omega, F⟩, O⟩ (by decide)⟩
theorem BkY.same_ (Y : BkY W p b G up n h m ly c 1 w) (hu : up ≤ 3) (hnu : n < up) (hc : c ≤ 100) :
    Calls Tryz.prog 29 #[.pointer (some ⟨p, 0, none⟩), .int .i64 (n : Int)] w fun e w' => ∃ k : Nat, e = .returned (.tuple #[.int .i64 8, .int .i64 (k : Int)]) ∧ BkY W p b G up n h m ly (c + 1) 1 w' := by
  obtain ⟨M, Z⟩ := Y
  have hv := Z.sgn
  rw [ma_sst (by omega)] at hv
  refine (grown_same Z.tw.fm (by omega) hv (by have := Z.st; omega)).mono ?_
  rintro e w' ⟨k, rfl, F, O⟩
  exact ⟨k, rfl, Z.after (k := 1) ⟨⟨ldM M (adG (n : Int)), rfl, by show M.s.st + 1 ≤ _; push_cast; omega, F⟩, O⟩ (by decide)⟩
theorem BkY.comes (Y : BkY W p b G up n h m ly c 0 w) (hu : up ≤ 3) (hnu : n < up) (hc : c ≤ 100) :
    Calls Tryz.prog 29 #[.pointer (some ⟨p, 0, none⟩), .int .i64 (n : Int)] w fun e w' => ∃ k : Nat, e = .returned (.tuple #[.int .i64 0, .int .i64 (k : Int)]) ∧ BkY W p b G up n h m ly (c + 5) 1 w' := by
  obtain ⟨M, Z⟩ := Y
  obtain ⟨S, I⟩ := Z.idl
  refine (grown_idl (P := fun _ M2 => ∀ y, y ≠ (n : Int) → M2.sst y = (maV M.V).sst y) (by decide) Z.tw.fm I (by omega) Z.sgn (by omega) (by have := Z.st; omega) (fun _ _ => rfl) fun K M2 S2 T2 I2 A hsh h0 hT hp => .inr fun y hy => (kF_sst (by rw [A.seg]; exact hy)).trans (hp y hy)).mono ?_
  rintro e w' ⟨k, o, M', rfl, hE, F, O⟩
  obtain ⟨S', I'⟩ := hE.idl
  obtain ⟨_, _, _, _, _, hs', hk, _, K0, M0, S0, T1, hp, _, A0, hsh, _, hoth, hend⟩ := hE
  rcases hend with ⟨c1, c2, c3⟩ | ⟨c0, _⟩
  · rw [c3]
    exact ⟨k, rfl, Z.ends I' (by omega) c2 (fun y hy => (hoth y hy).trans (hp y hy)) (by omega) F O⟩
  · cases c0
theorem BkY.lives (Y : BkY W p b G up n h m ly c sg w) : Calls Tryz.prog 7 #[] w fun e w' => e = .returned (.bool true) ∧ Below W.heap.size W w' := by
  obtain ⟨M, Z⟩ := Y
  refine (lives9_any w Z.tw.fm.lay Z.tw.fm.laym).mono ?_
  rintro e w' ⟨rfl, hb⟩
  exact ⟨rfl, Z.low.trans (hb.mono Z.low.size)⟩
end
end Go.Proofs.YtmjcbjcnmgleaaaGreatDoor
