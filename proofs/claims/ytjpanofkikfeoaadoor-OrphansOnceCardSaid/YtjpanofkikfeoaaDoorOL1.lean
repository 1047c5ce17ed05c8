/-
  The chapter's examples, walked; condition: the tables as laid.
  What stands while OrphansOrder gives its entries; condition: it lies as it says.
-/
import Derived.Test.YtjpanofkikfeoaaDoorOM2
import Derived.Test.YtjpanofkikfeoaaDoorOE2
import Derived.Test.YtjpanofkikfeoaaDoorO0
import Derived.Test.YtjpanofkikfeoaaDoorOD1
import Derived.Test.YtjpanofkikfeoaaDoorFRow
namespace Go.Proofs.YtjpanofkikfeoaaDoor
open Go.RowKit Go.Maps

section
variable {w w' : World} {p b : Nat}
/-- A new memory, of which each word is 0. -/
theorem new_vx (hL : Lay w) (hM : LayM w) : Calls Tryd.prog 16 #[] w fun e w' => ∃ p b M, e = .returned (.pointer (some ⟨p, 0, none⟩)) ∧ VX p b M w' ∧ M.V = (fun _ => 0) ∧ M.s.st = 0 ∧ Below w.heap.size w w' ∧ w.heap.size ≤ b ∧ b < p := by
  refine (new_some w).mono ?_
  rintro e w' ⟨p, b, rfl, hp, hb, h1, h2⟩
  have := hM.1
  have := hL.1
  exact ⟨p, b, ⟨fun _ => 0, ⟨0, 0, 0, 0, 0, 0, 0, false⟩⟩, rfl, ⟨⟨0, _, by decide, rq_nil, hp, fun _ => rfl⟩, hL.below hb, hM.below hb, by omega, by omega⟩, rfl, rfl, hb, h1, h2⟩
/-- A new memory: the words are those of a stack that is empty once its head says -1, or of slot -1. -/
theorem new_st (hL : Lay w) (hM : LayM w) : Calls Tryd.prog 16 #[] w fun e w' => ∃ p b, e = .returned (.pointer (some ⟨p, 0, none⟩)) ∧ Me w p b (fun _ => 0) 0 w' ∧ p < w'.heap.size ∧ b < w'.heap.size := by
  refine (new_vx hL hM).mono ?_
  rintro e w' ⟨p, b, M, rfl, F, hV, hs, hb, h2, h3⟩
  exact ⟨p, b, rfl, ⟨⟨M, hV, by omega, F⟩, hb, h2, by omega⟩, F.lt.1, F.lt.2⟩
/-- A box of an entry, apart from the memory. -/
structure Bx (p b g : Nat) (e : EP) (w : World) : Prop where
  k : Bq g 48 e.cells w
  p : g ≠ p
  b : g ≠ b
theorem Bx.onl {g : Nat} {e : EP} (h : Bx p b g e w) (o : Onl p b [] w w') : Bx p b g e w' := ⟨h.k.onl o h.p h.b (by simp), h.p, h.b⟩
theorem Bx.below {g : Nat} {e : EP} (h : Bx p b g e w) (o : Below w.heap.size w w') : Bx p b g e w' := ⟨h.k.below o, h.p, h.b⟩
theorem Bx.six {g : Nat} {s g' c0 c1 c2 : Int} {k : Bool} (h : Bx p b g ⟨s, g', k, c0, c1, c2⟩ w) : w.cell? ⟨g, 0, none⟩ = some (.int .i64 s) ∧ w.cell? ⟨g, 1, none⟩ = some (.int .u32 g') ∧ w.cell? ⟨g, 2, none⟩ = some (.bool k) ∧ w.cell? ⟨g, 3, none⟩ = some (.int .u64 c0) ∧ w.cell? ⟨g, 4, none⟩ = some (.int .u64 c1) ∧ w.cell? ⟨g, 5, none⟩ = some (.int .u64 c2) := ⟨h.k.cell 0, h.k.cell 1, h.k.cell 2, h.k.cell 3, h.k.cell 4, h.k.cell 5⟩
/-- An entry more that has words, its numbers written out. -/
theorem ofE_sto {P : Int → Prop} {L : List Int} {W : World} {s g c0 c1 c2 k : Int} (h : StO P L W p b k w) (hk : 0 ≤ k ∧ k < 800000) (hs : 0 ≤ s ∧ s < 256) (hg : s + 3 = g) (h0 : s + 1 = c0) (h1 : s + 5 = c1) (h2 : s + 9 = c2) :
    Calls Tryd.prog 17 #[.pointer (some ⟨p, 0, none⟩), .int .i64 s] w fun e w' => e = .returned (.agg #[.int .i64 s, .int .u32 g, .bool false, .int .u64 c0, .int .u64 c1, .int .u64 c2]) ∧ StO (fun x => P x ∨ x = s) L W p b (k + 4) w' ∧ Onl p b [] w w' := by
  subst hg h0 h1 h2
  exact h.of hk hs
/-- A box of its own for an entry. -/
theorem box_new {P : Int → Prop} {L : List Int} {W : World} {k s g c0 c1 c2 : Int} (h : StO P L W p b k w) (hp : p < w.heap.size) (hb : b < w.heap.size) {X : World} (hX : w.alloc (.cells #[.int .i64 s, .int .u32 g, .bool false, .int .u64 c0, .int .u64 c1, .int .u64 c2] 48) = X) :
    StO P L W p b k X ∧ Bx p b w.heap.size ⟨s, g, false, c0, c1, c2⟩ X ∧ p < X.heap.size ∧ b < X.heap.size ∧ Below w.heap.size w X := by
  subst hX
  have hB := (Below.refl _ w).alloc (Nat.le_refl _) (.cells #[.int .i64 s, .int .u32 g, .bool false, .int .u64 c0, .int .u64 c1, .int .u64 c2] 48)
  exact ⟨h.below hB, ⟨Bq.new w (⟨s, g, false, c0, c1, c2⟩ : EP).cells _, by omega, by omega⟩, by rw [World.size_alloc]; omega, by rw [World.size_alloc]; omega, hB⟩
/-- All is taken, by a number. -/
theorem taken_i {P : Int → Prop} {W : World} {k N : Int} {x : Int} {r : List Int} {n : Nat} (h : StO P (x :: r) W p b k w) (hk : 0 ≤ k ∧ k < 800000) (hl : r.length < 256) (hn : r.length + 1 = n) (hN : 5 * (n : Int) + 2 = N) :
    Calls Tryd.prog 21 #[.pointer (some ⟨p, 0, none⟩), .int .i64 N] w fun e w' => ∃ A c, e = .returned (.tuple #[.slice A n c, .bool true]) ∧ OwnE w' w.heap.size (.slice A n c) ((x :: r).map entS) ∧ StO P [] W p b (k + 1302) w' ∧ Onl p b [] w w' := by
  subst hn
  obtain rfl : ((5 * (r.length + 1) + 2 : Nat) : Int) = N := by omega
  exact h.taken hk hl rfl
/-- A row made for the call is compared. -/
theorem same_row {B : Nat} {A : Option Addr} {c n q : Nat} {xs ys : List EP} {cs : Array Value} (h : OwnE w B (.slice A n c) xs) (hq : w.heap.size = q) (hn : ys.length = n) (hl : n < 100000) (hcs : (flatE ys).toArray = cs) (he : xs = ys) :
    Calls Tryd.prog 22 #[.slice A n c, .slice (some ⟨q, 0, none⟩) n n] (w.alloc (.cells cs 48)) fun e w' => e = .returned (.bool true) ∧ Below w.heap.size w w' := by
  subst hcs hn hq he
  have hB := (Below.refl _ w).alloc (Nat.le_refl _) (.cells (flatE xs).toArray 48)
  refine (same_any (h.see.below hB) (SeeE.of_bq (Bq.new w (flatE xs) _) hl) hl).mono ?_
  rintro e w' ⟨rfl, h1⟩
  exact ⟨by rw [decide_eq_true rfl], hB.trans (h1.mono hB.size)⟩
def P753 (x : Int) : Prop := ((False ∨ x = 7) ∨ x = 3) ∨ x = 5
theorem is73 : ∀ e ∈ ([⟨7, 10, false, 8, 12, 16⟩, ⟨3, 6, false, 4, 8, 12⟩] : List EP), isE P753 e := fun e he => by
  rcases List.mem_cons.1 he with rfl | he
  · exact ⟨.inl (.inl (.inr rfl)), rfl⟩
  · obtain rfl := List.mem_singleton.1 he
    exact ⟨.inl (.inr rfl), rfl⟩
theorem is5 : ∀ e ∈ ([⟨5, 8, false, 6, 10, 14⟩] : List EP), isE P753 e := fun e he => by
  obtain rfl := List.mem_singleton.1 he
  exact ⟨.inr rfl, rfl⟩
theorem may73 : mayE [⟨7, 10, false, 8, 12, 16⟩, ⟨3, 6, false, 4, 8, 12⟩] := by unfold mayE; decide
theorem may5 : mayE [⟨5, 8, false, 6, 10, 14⟩] := by unfold mayE; decide
/-- A row made for the call is given. -/
theorem given_row {P : Int → Prop} {L : List Int} {W : World} {k : Int} {xs : List EP} {n q : Nat} {N : Int} {cs : Array Value} (h : StO P L W p b k w) (hq : w.heap.size = q) (hk : 0 ≤ k ∧ k < 800000) (hn : xs.length = n) (hcs : (flatE xs).toArray = cs) (hm : mayE xs) (he : ∀ e ∈ xs, isE P e) (hd : ∀ x ∈ L, x ∉ slots xs) (hl : xs.length < 1000) (hN : ((n + 2 : Nat) : Int) = N) :
    Calls Tryd.prog 20 #[.pointer (some ⟨p, 0, none⟩), .slice (some ⟨q, 0, none⟩) n n, .int .i64 N] (w.alloc (.cells cs 48)) fun e w' => e = .returned (.bool true) ∧ StO P (slots xs ++ L) W p b (k + 1002) w' ∧ Onl p b [] w w' := by
  subst hcs hn hq hN
  have hB := (Below.refl _ w).alloc (Nat.le_refl _) (.cells (flatE xs).toArray 48)
  refine ((h.below hB).given hk (SeeE.of_bq (Bq.new w (flatE xs) _) (by omega)) hm he hd hl rfl).mono ?_
  rintro e w' ⟨rfl, h1, h2⟩
  exact ⟨rfl, h1, (Onl.of_below hB).trans h2⟩
set_option maxRecDepth 100000 in
set_option maxHeartbeats 8000000 in
theorem lives12_any {W : World} (hL : Lay W) (hM : LayM W) : Calls Tryd.prog 7 #[] W fun e w' => e = .returned (.bool true) ∧ Below W.heap.size W w' := by
  have HL := Lib.hid hL
  have HM := Lib.hid hM
  clear hL hM
  go_enter Tryd.func7, Tryd.ntmps7
  go_wp2_with fail
  ((with_reducible refine (new_st HL.out HM.out).mono ?_); rintro e w1 ⟨p, b, rfl, h1, hp1, hb1⟩)
  have HS1 := Lib.hid (show StO (fun _ => False) [] W p b 0 w1 from ⟨⟨_, h1, fun s hs => hs.elim, by show wSlot 0 < 0; decide⟩, fun _ h => h.elim, by simp⟩)
  clear h1
  go_wp2_with fail
  ((with_reducible refine (HS1.out.none (by decide)).mono ?_); rintro e w2 ⟨A2, c2, rfl, h2, o2⟩)
  have HS2 := Lib.hid h2
  have hp2 := Nat.lt_of_lt_of_le hp1 o2.size
  have hb2 := Nat.lt_of_lt_of_le hb1 o2.size
  clear h2 o2 hp1 hb1 HS1
  go_wp2_with fail
  ((with_reducible refine (ofE_sto HS2.out (s := 7) (by decide) (by decide) rfl rfl rfl rfl).mono ?_); rintro e w3 ⟨rfl, h3, o3⟩)
  have HS3 := Lib.hid h3
  have hp3 := Nat.lt_of_lt_of_le hp2 o3.size
  have hb3 := Nat.lt_of_lt_of_le hb2 o3.size
  clear h3 o3 hp2 hb2 HS2
  go_wp2_with fail
  obtain ⟨x3, hx3⟩ : ∃ X, X = w3.alloc (.cells #[.int .i64 7, .int .u32 10, .bool false, .int .u64 8, .int .u64 12, .int .u64 16] 48) := ⟨_, rfl⟩
  rw [← hx3]
  obtain ⟨t3, b3, hp3', hb3', hB3⟩ := box_new HS3.out hp3 hb3 hx3.symm
  have HT3 := Lib.hid t3
  have HB3 := Lib.hid b3
  generalize w3.heap.size = g3 at *
  clear t3 b3 hB3 hx3 HS3 hp3 hb3
  go_wp2_with fail
  ((with_reducible refine (ofE_sto HT3.out (s := 3) (by decide) (by decide) rfl rfl rfl rfl).mono ?_); rintro e w4 ⟨rfl, h4, o4⟩)
  have HS4 := Lib.hid h4
  have hp4 := Nat.lt_of_lt_of_le hp3' o4.size
  have hb4 := Nat.lt_of_lt_of_le hb3' o4.size
  have HBx3 := Lib.hid (HB3.out.onl o4)
  clear h4 o4 hp3' hb3' HT3 HB3
  go_wp2_with fail
  obtain ⟨x4, hx4⟩ : ∃ X, X = w4.alloc (.cells #[.int .i64 3, .int .u32 6, .bool false, .int .u64 4, .int .u64 8, .int .u64 12] 48) := ⟨_, rfl⟩
  rw [← hx4]
  obtain ⟨t4, b4, hp4', hb4', hB4⟩ := box_new HS4.out hp4 hb4 hx4.symm
  have HT4 := Lib.hid t4
  have HB4 := Lib.hid b4
  have HBb34 := Lib.hid (HBx3.out.below hB4)
  clear HBx3
  generalize w4.heap.size = g4 at *
  clear t4 b4 hB4 hx4 HS4 hp4 hb4
  go_wp2_with fail
  ((with_reducible refine (ofE_sto HT4.out (s := 5) (by decide) (by decide) rfl rfl rfl rfl).mono ?_); rintro e w5 ⟨rfl, h5, o5⟩)
  have HS5 := Lib.hid h5
  have hp5 := Nat.lt_of_lt_of_le hp4' o5.size
  have hb5 := Nat.lt_of_lt_of_le hb4' o5.size
  have HBx4 := Lib.hid (HB4.out.onl o5)
  have HBx3 := Lib.hid (HBb34.out.onl o5)
  clear HBb34
  clear h5 o5 hp4' hb4' HT4 HB4
  obtain ⟨t5, b5, hp5', hb5', hB5⟩ := box_new (g := 8) (s := 5) (c0 := 6) (c1 := 10) (c2 := 14) HS5.out hp5 hb5 rfl
  have HT5 := Lib.hid (show StO P753 [] W p b _ _ from t5)
  have HB5 := Lib.hid b5
  have HBb35 := Lib.hid (HBx3.out.below hB5)
  have HBb45 := Lib.hid (HBx4.out.below hB5)
  obtain ⟨a0, a1, a2, a3, a4, a5⟩ := HBb35.out.six
  obtain ⟨d0, d1, d2, d3, d4, d5⟩ := HBb45.out.six
  clear t5 b5 HBx3 HBx4 HS5 hp5 hb5 hB5
  go_wp2_with fail
  have hz5 := World.size_alloc w5 (.cells #[.int .i64 5, .int .u32 8, .bool false, .int .u64 6, .int .u64 10, .int .u64 14] 48)
  ((with_reducible refine (given_row (n := 2) (N := 4) (cs := #[.int .i64 7, .int .u32 10, .bool false, .int .u64 8, .int .u64 12, .int .u64 16, .int .i64 3, .int .u32 6, .bool false, .int .u64 4, .int .u64 8, .int .u64 12]) (xs := [⟨7, 10, false, 8, 12, 16⟩, ⟨3, 6, false, 4, 8, 12⟩]) HT5.out hz5 (by decide) rfl rfl may73 is73 (by simp) (by decide) rfl).mono ?_); rintro e w6 ⟨rfl, h6, o6⟩)
  have HS6 := Lib.hid h6
  have HB35 := Lib.hid (HBb35.out.onl o6)
  have HB45 := Lib.hid (HBb45.out.onl o6)
  have HB55 := Lib.hid (HB5.out.onl o6)
  clear a0 a1 a2 a3 a4 a5 d0 d1 d2 d3 d4 d5 hz5
  obtain ⟨a0, a1, a2, a3, a4, a5⟩ := HB55.out.six
  clear h6 o6 HBb35 HBb45 HB5 HT5 hp5' hb5'
  generalize w5.heap.size = g5 at *
  go_wp2_with fail
  ((with_reducible refine (given_row (n := 1) (N := 3) (cs := #[.int .i64 5, .int .u32 8, .bool false, .int .u64 6, .int .u64 10, .int .u64 14]) (xs := [⟨5, 8, false, 6, 10, 14⟩]) HS6.out rfl (by decide) rfl rfl may5 is5 (by decide) (by decide) rfl).mono ?_); rintro e w7 ⟨rfl, h7, o7⟩)
  have HS7 := Lib.hid (show StO _ (5 :: [7, 3]) W p b _ w7 from h7)
  have HB37 := Lib.hid (HB35.out.onl o7)
  have HB47 := Lib.hid (HB45.out.onl o7)
  have HB57 := Lib.hid (HB55.out.onl o7)
  clear a0 a1 a2 a3 a4 a5 h7 o7 HB35 HB45 HB55 HS6
  go_wp2_with fail
  ((with_reducible refine (taken_i (n := 3) (N := 17) HS7.out (by decide) (by decide) rfl (by decide)).mono ?_); rintro e w8 ⟨A8, c8, rfl, r8, h8, o8⟩)
  have HS8 := Lib.hid h8
  have HR8 := Lib.hid r8
  obtain ⟨a0, a1, a2, a3, a4, a5⟩ := (HB37.out.onl o8).six
  obtain ⟨d0, d1, d2, d3, d4, d5⟩ := (HB47.out.onl o8).six
  obtain ⟨f0, f1, f2, f3, f4, f5⟩ := (HB57.out.onl o8).six
  clear h8 r8 o8 HB37 HB47 HB57 HS7
  go_wp2_with fail
  ((with_reducible refine (same_row (n := 3) (cs := #[.int .i64 5, .int .u32 8, .bool false, .int .u64 6, .int .u64 10, .int .u64 14, .int .i64 7, .int .u32 10, .bool false, .int .u64 8, .int .u64 12, .int .u64 16, .int .i64 3, .int .u32 6, .bool false, .int .u64 4, .int .u64 8, .int .u64 12]) (ys := [⟨5, 8, false, 6, 10, 14⟩, ⟨7, 10, false, 8, 12, 16⟩, ⟨3, 6, false, 4, 8, 12⟩]) HR8.out rfl rfl (by decide) rfl rfl).mono ?_); rintro e w9 ⟨rfl, h9⟩)
  have HS9 := Lib.hid (HS8.out.low.trans (h9.mono HS8.out.low.size))
  clear h9
  go_wp2_with fail
  go_ret
  exact ⟨rfl, HS9.out⟩
end
end Go.Proofs.YtjpanofkikfeoaaDoor
namespace Go.Proofs.YtjpanofkikfeoaaDoor
open Go.RowKit Go.Maps

theorem low_cellO {W w : World} (h : Below W.heap.size W w) {a : Addr} {v : Value} (hc : W.cell? a = some v) : w.cell? a = some v := by
  have hlt : a.block < W.heap.size := by
    refine Decidable.byContradiction fun hn => ?_
    simp [World.cell?, Array.getElem?_eq_none (Nat.le_of_not_lt hn)] at hc
  have hb := h.block a.block hlt
  unfold World.cell? at hc ⊢
  rw [hb]
  exact hc
section
variable {P Q : Int → Prop} {L : List Int} {W w w' : World} {p b : Nat} {k k' : Int} {v v' : Value} {xs ys : List EP} {B : Nat}
theorem StO.ne (h : StO P L W p b k w) {q : Nat} {cs : List Value} (o : Bq q 48 cs w) : q ≠ p ∧ q ≠ b := by
  obtain ⟨V, ⟨⟨M, _, _, F⟩, _⟩, _⟩ := h.mem
  exact F.ne (by decide) o
/-- An own row, over what a call did to the memory. -/
theorem OwnE.onlS (h : OwnE w B v xs) (S : StO P L W p b k w) (o : Onl p b [] w w') : OwnE w' B v xs := h.same fun g hg => by
  obtain ⟨_, cs, kk⟩ := h.bq hg
  have hn := S.ne kk
  exact o.block g kk.lt hn.1 hn.2 (by simp)
/-- The stack, while an own row grows. -/
theorem StO.grown (h : StO P L W p b k w) (hW : 1 < W.heap.size) (hr : OwnE w W.heap.size v xs) (hg : w.grownBy w' v.ownBlock) : StO P L W p b k w' := by
  have hne := fun (q : Nat) (hq : v.ownBlock = some q) => h.ne (hr.bq hq).2.choose_spec
  have hlo := fun (q : Nat) (hq : v.ownBlock = some q) => (hr.bq hq).1
  obtain ⟨V, ⟨⟨M, hV, hs, F⟩, low, b0, p0⟩, hd, hc⟩ := h.mem
  have hlt := F.lt
  have hsz := low.size
  refine ⟨⟨V, ⟨⟨M, hV, hs, F.keep hg.size (hg.block p hlt.1 fun e => (hne p e.symm).1 rfl) (hg.block b hlt.2 fun e => (hne b e.symm).2 rfl) (hg.block 1 (by omega) fun e => by have := hlo 1 e.symm; omega) (hg.block 0 (by omega) fun e => by have := hlo 0 e.symm; omega)⟩, low.grown hg hsz fun q hq => hlo q hq, b0, p0⟩, hd, hc⟩, h.rng, h.inP⟩
theorem OwnE.far {vr : Value} (h : OwnE w B v xs) (hg : w.grownBy w' vr.ownBlock) (ha : ∀ g, v.ownBlock = some g → vr.ownBlock ≠ some g) : OwnE w' B v xs := h.same fun g hh => hg.block g (h.lt hh) fun e => ha g hh e.symm
end
/-- What stands between two rounds: the entries given (S, the stack's order), and those that wait (N). -/
structure OrS (l : List Int) (i : Nat) (N S : List Int) (vn vw : Value) (W : World) (p b : Nat) (w : World) : Prop where
  st : StO (fun x => x ∈ N ++ S) S W p b (2000 * (i : Int) + 1) w
  on : OwnE w W.heap.size vn (N.map entS)
  ow : OwnE w W.heap.size vw (S.map entS)
  ap : ∀ g, vn.ownBlock = some g → vw.ownBlock ≠ some g
  nd : (N ++ S).Nodup
  seen : ∀ x, x ∈ N ++ S ↔ x ∈ l.take i
  len : (N ++ S).length ≤ i
  nil : S = [] → vw = .slice none 0 0
/-- .. and when the next entry is among those that wait. -/
structure OrT (l : List Int) (i : Nat) (N S : List Int) (vn vw : Value) (W : World) (p b : Nat) (w : World) : Prop where
  st : StO (fun x => x ∈ N ++ S) S W p b (2000 * (i : Int) + 5) w
  on : OwnE w W.heap.size vn (N.map entS)
  ow : OwnE w W.heap.size vw (S.map entS)
  ap : ∀ g, vn.ownBlock = some g → vw.ownBlock ≠ some g
  nd : (N ++ S).Nodup
  seen : ∀ x, x ∈ N ++ S ↔ x ∈ l.take (i + 1)
  len : (N ++ S).length ≤ i + 1
  nil : S = [] → vw = .slice none 0 0
section
variable {l N S : List Int} {i : Nat} {vn vw v' : Value} {W w w' : World} {p b : Nat} {s : Int}
theorem OrS.low (h : OrS l i N S vn vw W p b w) : Below W.heap.size W w := h.st.low
theorem OrS.below (h : OrS l i N S vn vw W p b w) (hb : Below w.heap.size w w') : OrS l i N S vn vw W p b w' := ⟨h.st.below hb, h.on.below hb, h.ow.below hb, h.ap, h.nd, h.seen, h.len, h.nil⟩
theorem OrT.below (h : OrT l i N S vn vw W p b w) (hb : Below w.heap.size w w') : OrT l i N S vn vw W p b w' := ⟨h.st.below hb, h.on.below hb, h.ow.below hb, h.ap, h.nd, h.seen, h.len, h.nil⟩
theorem take_more (hl : i < l.length) (hs : l.getD i 0 = s) (x : Int) : x ∈ l.take (i + 1) ↔ x ∈ l.take i ∨ x = s := by
  have : l[i] = s := by rw [← hs, List.getD_eq_getElem?_getD, List.getElem?_eq_getElem hl]; rfl
  rw [List.take_succ_eq_append_getElem hl, this]
  simp
/-- A slot that was there before is passed over. -/
theorem OrS.skip (h : OrS l i N S vn vw W p b w) (hl : i < l.length) (hs : l.getD i 0 = s) (hin : s ∈ l.take i) : OrS l (i + 1) N S vn vw W p b w :=
  ⟨h.st.mono (by push_cast; omega), h.on, h.ow, h.ap, h.nd, fun x => (h.seen x).trans ⟨fun k => (take_more hl hs x).2 (.inl k), fun k => ((take_more hl hs x).1 k).elim id fun e => e ▸ hin⟩, by have := h.len; omega, h.nil⟩
/-- What stands once the entry has its words. -/
structure OrU (l : List Int) (i : Nat) (N S : List Int) (vn vw : Value) (s : Int) (W : World) (p b : Nat) (w : World) : Prop where
  st : StO (fun x => x ∈ (N ++ [s]) ++ S) S W p b (2000 * (i : Int) + 5) w
  on : OwnE w W.heap.size vn (N.map entS)
  ow : OwnE w W.heap.size vw (S.map entS)
  ap : ∀ g, vn.ownBlock = some g → vw.ownBlock ≠ some g
  nd : ((N ++ [s]) ++ S).Nodup
  seen : ∀ x, x ∈ (N ++ [s]) ++ S ↔ x ∈ l.take (i + 1)
  len : ((N ++ [s]) ++ S).length ≤ i + 1
  nil : S = [] → vw = .slice none 0 0
theorem OrU.below (h : OrU l i N S vn vw s W p b w) (hb : Below w.heap.size w w') : OrU l i N S vn vw s W p b w' := ⟨h.st.below hb, h.on.below hb, h.ow.below hb, h.ap, h.nd, h.seen, h.len, h.nil⟩
theorem mem_mid (x : Int) : x ∈ (N ++ [s]) ++ S ↔ x ∈ N ++ S ∨ x = s := by simp only [List.mem_append, List.mem_singleton]; exact ⟨fun h => by rcases h with (h | h) | h <;> simp [h], fun h => by rcases h with (h | h) | h <;> simp [h]⟩
theorem nodup_mid (h : (N ++ S).Nodup) (hs : s ∉ N ++ S) : ((N ++ [s]) ++ S).Nodup := by
  rw [List.append_assoc]
  refine (List.perm_middle.nodup_iff).2 (List.nodup_cons.2 ⟨hs, h⟩)
theorem OrS.of (h : OrS l i N S vn vw W p b w) (hl : i < l.length) (hi : i < 40) (hs : l.getD i 0 = s) (hin : s ∉ l.take i) (h8 : 0 ≤ s ∧ s < 256) :
    Calls Tryd.prog 17 #[.pointer (some ⟨p, 0, none⟩), .int .i64 s] w fun e w' => e = .returned (.agg #[.int .i64 s, .int .u32 (s + 3), .bool false, .int .u64 (s + 1), .int .u64 (s + 5), .int .u64 (s + 9)]) ∧ OrU l i N S vn vw s W p b w' := by
  refine (ofE_sto h.st (by omega) h8 rfl rfl rfl rfl).mono ?_
  rintro e w' ⟨rfl, h1, o⟩
  refine ⟨rfl, ⟨(h1.mono (by omega)).iff fun x => mem_mid x, h.on.onlS h.st o, h.ow.onlS h.st o, h.ap, nodup_mid h.nd fun k => hin ((h.seen s).1 k), fun x => (mem_mid x).trans ((or_congr (h.seen x) Iff.rfl).trans (take_more hl hs x).symm), ?_, h.nil⟩⟩
  have := h.len
  simp only [List.length_append, List.length_singleton] at this ⊢
  omega
theorem OrU.push (h : OrU l i N S vn vw s W p b w) (hW : 1 < W.heap.size) (hr : w'.ownsRow W.heap.size 48 6 v' (N.length + 1) (flatE (N.map entS) ++ (entS s).cells)) (hg : w.grownBy w' vn.ownBlock) (hb : v'.ownBlock = vn.ownBlock ∨ v'.ownBlock = some w.heap.size) : OrT l i (N ++ [s]) S v' vw W p b w' := by
  refine ⟨h.st.grown hW h.on hg, ?_, h.ow.far hg fun g hw hv => h.ap g hv hw, fun g hv hw => ?_, h.nd, h.seen, h.len, h.nil⟩
  · show w'.ownsRow _ _ _ _ _ _
    rw [List.map_append, flatE_app]
    simpa [flatE] using hr
  · rcases hb with e | e
    · exact h.ap g (e ▸ hv) hw
    · rw [e] at hv
      injection hv with hv
      have := h.ow.lt hw
      omega
/-- Not given yet. -/
theorem OrT.wait (h : OrT l i N S vn vw W p b w) : OrS l (i + 1) N S vn vw W p b w := ⟨h.st.mono (by push_cast; omega), h.on, h.ow, h.ap, h.nd, h.seen, h.len, h.nil⟩
theorem slots_entS : ∀ N : List Int, slots (N.map entS) = N
  | [] => rfl
  | x :: r => by
      show x :: slots (r.map entS) = _
      rw [slots_entS r]
/-- What stands once they are given. -/
structure OrG (l : List Int) (i : Nat) (N S : List Int) (vn vw : Value) (W : World) (p b : Nat) (w : World) : Prop where
  st : StO (fun x => x ∈ N ++ S) (N ++ S) W p b (2000 * (i : Int) + 1007) w
  on : OwnE w W.heap.size vn (N.map entS)
  ow : OwnE w W.heap.size vw (S.map entS)
  nd : (N ++ S).Nodup
  seen : ∀ x, x ∈ N ++ S ↔ x ∈ l.take (i + 1)
  len : (N ++ S).length ≤ i + 1
  nil : S = [] → vw = .slice none 0 0
theorem may_entS (hn : N ≠ []) (hd : N.Nodup) (hr : ∀ x ∈ N, 0 ≤ x ∧ x < 256) : mayE (N.map entS) := by
  refine ⟨by simpa using hn, fun e he => ?_, ?_⟩
  · obtain ⟨x, hx, rfl⟩ := List.mem_map.1 he
    exact ⟨(hr x hx).1, (hr x hx).2, rfl⟩
  · have := slots_entS N
    unfold slots at this
    rw [this]
    exact hd
theorem is_entS {P : Int → Prop} (h : ∀ x ∈ N, P x) : ∀ e ∈ N.map entS, isE P e := fun e he => by
  obtain ⟨x, hx, rfl⟩ := List.mem_map.1 he
  exact ⟨h x hx, rfl⟩
/-- Entries of slots are given, by a number. -/
theorem given_i {P : Int → Prop} {L : List Int} {k n : Int} {A : Option Addr} {c : Nat} {m : Nat} (h : StO P L W p b k w) (hk : 0 ≤ k ∧ k < 800000) (hr : SeeE w (.slice A m c) (N.map entS)) (hP : ∀ x ∈ N, P x) (hN : N ≠ []) (hd : N.Nodup) (hdj : ∀ x ∈ L, x ∉ N) (hl : N.length < 900) (hm : N.length = m) (hn : (m : Int) + 2 = n) :
    Calls Tryd.prog 20 #[.pointer (some ⟨p, 0, none⟩), .slice A m c, .int .i64 n] w fun e w' => e = .returned (.bool true) ∧ StO P (N ++ L) W p b (k + 1002) w' ∧ Onl p b [] w w' := by
  subst hm
  obtain rfl : ((N.length + 2 : Nat) : Int) = n := by omega
  have hlen : (N.map entS).length = N.length := by simp
  have h1 := h.given (A := A) (c := c) (g := N.map entS) hk (by rw [hlen]; exact hr) (may_entS hN hd fun x hx => h.rng x (hP x hx)) (is_entS hP) (by rw [slots_entS]; exact hdj) (by rw [hlen]; omega) rfl
  rw [hlen, slots_entS] at h1
  exact h1
theorem OrT.give {A : Option Addr} {c m : Nat} {n : Int} (h : OrT l i N S (.slice A m c) vw W p b w) (hi : i < 40) (hm : N.length = m) (h0 : 0 < m) (hn : (m : Int) + 2 = n) :
    Calls Tryd.prog 20 #[.pointer (some ⟨p, 0, none⟩), .slice A m c, .int .i64 n] w fun e w' => e = .returned (.bool true) ∧ OrG l i N S (.slice A m c) vw W p b w' := by
  have hlen := h.len
  simp only [List.length_append] at hlen
  have hnd := List.nodup_append.1 h.nd
  refine (given_i h.st (by omega) h.on.see (fun x hx => List.mem_append_left _ hx) (fun e => by rw [e] at hm; simp at hm; omega) hnd.1 (fun x hx hn => hnd.2.2 x hn x hx rfl) (by omega) hm hn).mono ?_
  rintro e w' ⟨rfl, h1, o⟩
  exact ⟨rfl, ⟨h1.mono (by omega), h.on.onlS h.st o, h.ow.onlS h.st o, h.nd, h.seen, h.len, h.nil⟩⟩
/-- The new list of what is given, first what was given last. -/
structure OrH (l : List Int) (i : Nat) (N S : List Int) (vt vw : Value) (W : World) (p b : Nat) (w : World) : Prop where
  st : StO (fun x => x ∈ N ++ S) (N ++ S) W p b (2000 * (i : Int) + 1007) w
  ot : OwnE w W.heap.size vt (N.map entS)
  ow : OwnE w W.heap.size vw (S.map entS)
  nd : (N ++ S).Nodup
  seen : ∀ x, x ∈ N ++ S ↔ x ∈ l.take (i + 1)
  len : (N ++ S).length ≤ i + 1
  nil : S = [] → vw = .slice none 0 0
theorem OrG.copy {q : Nat} (h : OrG l i N S vn vw W p b w) (hW : 1 < W.heap.size) (hq : N.length = q) (hr : w'.ownsRow W.heap.size 48 6 v' q (flatE (N.map entS))) (hg : w.grownBy w' none) : OrH l i N S v' vw W p b w' := by
  subst hq
  have hg' : w.grownBy w' (Value.slice none 0 0).ownBlock := hg
  refine ⟨h.st.grown hW (OwnE.nil w _) hg', ?_, h.ow.far hg' (fun g _ hv => by cases hv), h.nd, h.seen, h.len, h.nil⟩
  show w'.ownsRow _ _ _ _ _ _
  simpa using hr
theorem OrH.join {q1 q2 : Nat} (h : OrH l i N S vn vw W p b w) (hW : 1 < W.heap.size) (hN : N ≠ []) (h1 : N.length = q1) (h2 : S.length = q2) (hr : w'.ownsRow W.heap.size 48 6 v' (q1 + q2) (flatE (N.map entS) ++ flatE (S.map entS))) (hg : w.grownBy w' vn.ownBlock) : OrS l (i + 1) [] (N ++ S) (.slice none 0 0) v' W p b w' := by
  subst h1 h2
  refine ⟨((h.st.grown hW h.ot hg).mono (by push_cast; omega)).iff fun x => Iff.rfl, OwnE.nil _ _, ?_, (fun g hv => by cases hv), h.nd, h.seen, h.len, fun e => absurd (List.append_eq_nil_iff.1 e).1 hN⟩
  show w'.ownsRow _ _ _ _ _ _
  rw [List.map_append, flatE_app]
  simpa using hr
theorem OrH.join0 (h : OrH l i N [] vn vw W p b w) (hN : N ≠ []) : OrS l (i + 1) [] N (.slice none 0 0) vn W p b w := by
  have e : N ++ [] = N := List.append_nil N
  have h9 := h.st
  rw [e] at h9
  refine ⟨(h9.mono (by push_cast; omega)).iff fun x => by simp, OwnE.nil _ _, h.ot, (fun g hv => by cases hv), by have := h.nd; rw [e] at this; exact this, fun x => by have := h.seen x; rw [e] at this; exact this, by have := h.len; rw [e] at this; exact this, fun e => absurd e hN⟩
/-- Two rows of the same entries. -/
theorem same_eq {A B : Option Addr} {n c d : Nat} {xs : List EP} (hx : SeeE w (.slice A n c) xs) (hy : SeeE w (.slice B n d) xs) (hn : n < 100000) : Calls Tryd.prog 22 #[.slice A n c, .slice B n d] w fun e w' => e = .returned (.bool true) ∧ Below w.heap.size w w' := by
  refine (same_any hx hy hn).mono ?_
  rintro e w' ⟨rfl, h⟩
  exact ⟨by rw [decide_eq_true rfl], h⟩
/-- What stands at the end: what is taken, and what was given. -/
structure OrF (P : Int → Prop) (L S : List Int) (k : Int) (va vw : Value) (W : World) (p b : Nat) (w : World) : Prop where
  st : StO P L W p b k w
  oa : OwnE w W.heap.size va (S.map entS)
  ow : OwnE w W.heap.size vw (S.map entS)
  nd : S.Nodup
  inP : ∀ x ∈ S, P x
theorem OrF.below {P : Int → Prop} {L : List Int} {k : Int} {va : Value} (h : OrF P L S k va vw W p b w) (hb : Below w.heap.size w w') : OrF P L S k va vw W p b w' := ⟨h.st.below hb, h.oa.below hb, h.ow.below hb, h.nd, h.inP⟩
theorem OrS.take {x : Int} {r : List Int} {m : Nat} {n : Int} (h : OrS l i N (x :: r) vn vw W p b w) (hi : i ≤ 40) (hm : (x :: r).length = m) (hn : 5 * (m : Int) + 2 = n) :
    Calls Tryd.prog 21 #[.pointer (some ⟨p, 0, none⟩), .int .i64 n] w fun e w' => ∃ A c, e = .returned (.tuple #[.slice A m c, .bool true]) ∧ OrF (fun y => y ∈ N ++ (x :: r)) [] (x :: r) 100000 (.slice A m c) vw W p b w' := by
  have hlen := h.len
  simp only [List.length_append, List.length_cons] at hlen
  refine (taken_i h.st (by omega) (by omega) hm hn).mono ?_
  rintro e w' ⟨A, c, rfl, h1, h2, o⟩
  exact ⟨A, c, rfl, h2.mono (by omega), h1.mono h.st.low.size, h.ow.onlS h.st o, (List.nodup_append.1 h.nd).2.1, fun y hy => List.mem_append_right _ hy⟩
section
variable {P : Int → Prop} {L : List Int} {k : Int} {va : Value} {A B : Option Addr} {c d m : Nat} {n : Int}
theorem OrF.none' (h : OrF P [] S k va vw W p b w) (hk : 0 ≤ k ∧ k < 700000) : Calls Tryd.prog 21 #[.pointer (some ⟨p, 0, Option.none⟩), .int .i64 1] w fun e w' => ∃ A c, e = .returned (.tuple #[.slice A 0 c, .bool true]) ∧ OrF P [] S (k + 1) va vw W p b w' := by
  refine (h.st.none (by omega)).mono ?_
  rintro e w' ⟨A, c, rfl, h2, o⟩
  exact ⟨A, c, rfl, h2, h.oa.onlS h.st o, h.ow.onlS h.st o, h.nd, h.inP⟩
theorem OrF.same (h : OrF P L S k (.slice A m c) (.slice B m d) W p b w) (hm : m < 1000) : Calls Tryd.prog 22 #[.slice A m c, .slice B m d] w fun e w' => e = .returned (.bool true) ∧ OrF P L S k (.slice A m c) (.slice B m d) W p b w' := by
  refine (same_eq h.oa.see h.ow.see (by omega)).mono ?_
  rintro e w' ⟨rfl, hb⟩
  exact ⟨rfl, h.below hb⟩
theorem OrF.give (h : OrF P [] S k (.slice A m c) vw W p b w) (hk : 0 ≤ k ∧ k < 700000) (hm : S.length = m) (h0 : 0 < m) (hm2 : m < 800) (hn : (m : Int) + 2 = n) : Calls Tryd.prog 20 #[.pointer (some ⟨p, 0, Option.none⟩), .slice A m c, .int .i64 n] w fun e w' => e = .returned (.bool true) ∧ OrF P S S (k + 1002) (.slice A m c) vw W p b w' := by
  refine (given_i h.st (by omega) h.oa.see h.inP (fun e => by rw [e] at hm; simp at hm; omega) h.nd (by simp) (by omega) hm hn).mono ?_
  rintro e w' ⟨rfl, h1, o⟩
  rw [List.append_nil] at h1
  exact ⟨rfl, h1, h.oa.onlS h.st o, h.ow.onlS h.st o, h.nd, h.inP⟩
theorem OrF.take {x : Int} {r : List Int} (h : OrF P (x :: r) (x :: r) k va vw W p b w) (hk : 0 ≤ k ∧ k < 700000) (hm : (x :: r).length = m) (hm2 : m < 200) (hn : 5 * (m : Int) + 2 = n) :
    Calls Tryd.prog 21 #[.pointer (some ⟨p, 0, Option.none⟩), .int .i64 n] w fun e w' => ∃ A c, e = .returned (.tuple #[.slice A m c, .bool true]) ∧ OrF P [] (x :: r) (k + 1302) (.slice A m c) vw W p b w' := by
  refine (taken_i h.st (by omega) (by simp only [List.length_cons] at hm; omega) hm hn).mono ?_
  rintro e w' ⟨A, c, rfl, h1, h2, o⟩
  exact ⟨A, c, rfl, h2, h1.mono h.st.low.size, h.ow.onlS h.st o, h.nd, h.inP⟩
end
end
end Go.Proofs.YtjpanofkikfeoaaDoor
