/-
  The chapter's examples, walked; condition: the tables as laid.
-/
import Derived.Test.YtjpanofkikfeoaaGreatDoorOM2
import Derived.Test.YtjpanofkikfeoaaGreatDoorOE2
import Derived.Test.YtjpanofkikfeoaaGreatDoorO0
namespace Go.Proofs.YtjpanofkikfeoaaGreatDoor
open Go.RowKit Go.Maps

section
variable {w w' : World} {p b : Nat}
/-- A new memory, of which each word is 0. -/
theorem new_vx (hL : Lay w) (hM : LayM w) : Calls Tryz.prog 16 #[] w fun e w' => ∃ p b M, e = .returned (.pointer (some ⟨p, 0, none⟩)) ∧ VX p b M w' ∧ M.V = (fun _ => 0) ∧ M.s.st = 0 ∧ Below w.heap.size w w' ∧ w.heap.size ≤ b ∧ b < p := by
  refine (new_some w).mono ?_
  rintro e w' ⟨p, b, rfl, hp, hb, h1, h2⟩
  have := hM.1
  have := hL.1
  exact ⟨p, b, ⟨fun _ => 0, ⟨0, 0, 0, 0, 0, 0, 0, false⟩⟩, rfl, ⟨⟨0, _, by decide, rq_nil, hp, fun _ => rfl⟩, hL.below hb, hM.below hb, by omega, by omega⟩, rfl, rfl, hb, h1, h2⟩
/-- A new memory: the words are those of a stack that is empty once its head says -1, or of slot -1. -/
theorem new_st (hL : Lay w) (hM : LayM w) : Calls Tryz.prog 16 #[] w fun e w' => ∃ p b, e = .returned (.pointer (some ⟨p, 0, none⟩)) ∧ Me w p b (fun _ => 0) 0 w' ∧ p < w'.heap.size ∧ b < w'.heap.size := by
  refine (new_vx hL hM).mono ?_
  rintro e w' ⟨p, b, M, rfl, F, hV, hs, hb, h2, h3⟩
  exact ⟨p, b, rfl, ⟨⟨M, hV, by omega, F⟩, hb, h2, by omega⟩, F.lt.1, F.lt.2⟩
/-- A box of an entry, apart from the memory. -/
structure Bx (p b g : Nat) (e : EP) (w : World) : Prop where
  k : Bq g 62 e.cells w
  p : g ≠ p
  b : g ≠ b
theorem Bx.onl {g : Nat} {e : EP} (h : Bx p b g e w) (o : Onl p b [] w w') : Bx p b g e w' := ⟨h.k.onl o h.p h.b (by simp), h.p, h.b⟩
theorem Bx.below {g : Nat} {e : EP} (h : Bx p b g e w) (o : Below w.heap.size w w') : Bx p b g e w' := ⟨h.k.below o, h.p, h.b⟩
theorem Bx.six {g : Nat} {s g' c0 c1 c2 : Int} {k : Bool} (h : Bx p b g ⟨s, g', k, c0, c1, c2⟩ w) : w.cell? ⟨g, 0, none⟩ = some (.int .i64 s) ∧ w.cell? ⟨g, 1, none⟩ = some (.int .u32 g') ∧ w.cell? ⟨g, 2, none⟩ = some (.bool k) ∧ w.cell? ⟨g, 3, none⟩ = some (.int .u64 c0) ∧ w.cell? ⟨g, 4, none⟩ = some (.int .u64 c1) ∧ w.cell? ⟨g, 5, none⟩ = some (.int .u64 c2) := ⟨h.k.cell 0, h.k.cell 1, h.k.cell 2, h.k.cell 3, h.k.cell 4, h.k.cell 5⟩
/-- An entry more that has words, its numbers written out. -/
theorem ofE_sto {P : Int → Prop} {L : List Int} {W : World} {s g c0 c1 c2 k : Int} (h : StO P L W p b k w) (hk : 0 ≤ k ∧ k < 800000) (hs : 0 ≤ s ∧ s < 256) (hg : s + 3 = g) (h0 : s + 1 = c0) (h1 : s + 5 = c1) (h2 : s + 9 = c2) :
    Calls Tryz.prog 18 #[.pointer (some ⟨p, 0, none⟩), .int .i64 s] w fun e w' => e = .returned (.agg #[.int .i64 s, .int .u32 g, .bool false, .int .u64 c0, .int .u64 c1, .int .u64 c2]) ∧ StO (fun x => P x ∨ x = s) L W p b (k + 4) w' ∧ Onl p b [] w w' := by
  subst hg h0 h1 h2
  exact h.of hk hs
/-- A box of its own for an entry. -/
theorem box_new {P : Int → Prop} {L : List Int} {W : World} {k s g c0 c1 c2 : Int} (h : StO P L W p b k w) (hp : p < w.heap.size) (hb : b < w.heap.size) {X : World} (hX : w.alloc (.cells #[.int .i64 s, .int .u32 g, .bool false, .int .u64 c0, .int .u64 c1, .int .u64 c2] 62) = X) :
    StO P L W p b k X ∧ Bx p b w.heap.size ⟨s, g, false, c0, c1, c2⟩ X ∧ p < X.heap.size ∧ b < X.heap.size ∧ Below w.heap.size w X := by
  subst hX
  have hB := (Below.refl _ w).alloc (Nat.le_refl _) (.cells #[.int .i64 s, .int .u32 g, .bool false, .int .u64 c0, .int .u64 c1, .int .u64 c2] 62)
  exact ⟨h.below hB, ⟨Bq.new w (⟨s, g, false, c0, c1, c2⟩ : EP).cells _, by omega, by omega⟩, by rw [World.size_alloc]; omega, by rw [World.size_alloc]; omega, hB⟩
/-- All is taken, by a number. -/
theorem taken_i {P : Int → Prop} {W : World} {k N : Int} {x : Int} {r : List Int} {n : Nat} (h : StO P (x :: r) W p b k w) (hk : 0 ≤ k ∧ k < 800000) (hl : r.length < 256) (hn : r.length + 1 = n) (hN : 5 * (n : Int) + 2 = N) :
    Calls Tryz.prog 17 #[.pointer (some ⟨p, 0, none⟩), .int .i64 N] w fun e w' => ∃ A c, e = .returned (.tuple #[.slice A n c, .bool true]) ∧ OwnE w' w.heap.size (.slice A n c) ((x :: r).map entS) ∧ StO P [] W p b (k + 1302) w' ∧ Onl p b [] w w' := by
  subst hn
  obtain rfl : ((5 * (r.length + 1) + 2 : Nat) : Int) = N := by omega
  exact h.taken hk hl rfl
/-- A row made for the call is compared. -/
theorem same_row {B : Nat} {A : Option Addr} {c n q : Nat} {xs ys : List EP} {cs : Array Value} (h : OwnE w B (.slice A n c) xs) (hq : w.heap.size = q) (hn : ys.length = n) (hl : n < 100000) (hcs : (flatE ys).toArray = cs) (he : xs = ys) :
    Calls Tryz.prog 8 #[.slice A n c, .slice (some ⟨q, 0, none⟩) n n] (w.alloc (.cells cs 62)) fun e w' => e = .returned (.bool true) ∧ Below w.heap.size w w' := by
  subst hcs hn hq he
  have hB := (Below.refl _ w).alloc (Nat.le_refl _) (.cells (flatE xs).toArray 62)
  refine (same_any (h.see.below hB) (SeeE.of_bq (Bq.new w (flatE xs) _) hl) hl).mono ?_
  rintro e w' ⟨rfl, h1⟩
  exact ⟨by rw [decide_eq_true rfl], hB.trans (h1.mono hB.size)⟩
def P753 (x : Int) : Prop := ((False ∨ x = 7) ∨ x = 3) ∨ x = 5
theorem is73 : ∀ e ∈ ([⟨7, 10, false, 8, 12, 16⟩, ⟨3, 6, false, 4, 8, 12⟩] : List EP), isE P753 e := fun e he => by
  rcases List.mem_cons.1 he with rfl | he
  · exact ⟨.inl (.inl (.inr rfl)), rfl⟩
  · obtain rfl := List.mem_singleton.1 he
    exact ⟨.inl (.inr rfl), rfl⟩
theorem is5 : ∀ e ∈ ([⟨5, 8, false, 6, 10, 14⟩] : List EP), isE P753 e := fun e he => by
  obtain rfl := List.mem_singleton.1 he
  exact ⟨.inr rfl, rfl⟩
theorem may73 : mayE [⟨7, 10, false, 8, 12, 16⟩, ⟨3, 6, false, 4, 8, 12⟩] := by unfold mayE; decide
theorem may5 : mayE [⟨5, 8, false, 6, 10, 14⟩] := by unfold mayE; decide
/-- A row made for the call is given. -/
theorem given_row {P : Int → Prop} {L : List Int} {W : World} {k : Int} {xs : List EP} {n q : Nat} {N : Int} {cs : Array Value} (h : StO P L W p b k w) (hq : w.heap.size = q) (hk : 0 ≤ k ∧ k < 800000) (hn : xs.length = n) (hcs : (flatE xs).toArray = cs) (hm : mayE xs) (he : ∀ e ∈ xs, isE P e) (hd : ∀ x ∈ L, x ∉ slots xs) (hl : xs.length < 1000) (hN : ((n + 2 : Nat) : Int) = N) :
    Calls Tryz.prog 19 #[.pointer (some ⟨p, 0, none⟩), .slice (some ⟨q, 0, none⟩) n n, .int .i64 N] (w.alloc (.cells cs 62)) fun e w' => e = .returned (.bool true) ∧ StO P (slots xs ++ L) W p b (k + 1002) w' ∧ Onl p b [] w w' := by
  subst hcs hn hq hN
  have hB := (Below.refl _ w).alloc (Nat.le_refl _) (.cells (flatE xs).toArray 62)
  refine ((h.below hB).given hk (SeeE.of_bq (Bq.new w (flatE xs) _) (by omega)) hm he hd hl rfl).mono ?_
  rintro e w' ⟨rfl, h1, h2⟩
  exact ⟨rfl, h1, (Onl.of_below hB).trans h2⟩
set_option maxRecDepth 100000 in
set_option maxHeartbeats 8000000 in
theorem lives12_any {W : World} (hL : Lay W) (hM : LayM W) : Calls Tryz.prog 4 #[] W fun e w' => e = .returned (.bool true) ∧ Below W.heap.size W w' := by
  have HL := Lib.hid hL
  have HM := Lib.hid hM
  clear hL hM
  go_enter Tryz.func4, Tryz.ntmps4
  go_wp2_with fail
  ((with_reducible refine (new_st HL.out HM.out).mono ?_); rintro e w1 ⟨p, b, rfl, h1, hp1, hb1⟩)
  have HS1 := Lib.hid (show StO (fun _ => False) [] W p b 0 w1 from ⟨⟨_, h1, fun s hs => hs.elim, by show wSlot 0 < 0; decide⟩, fun _ h => h.elim, by simp⟩)
  clear h1
  go_wp2_with fail
  ((with_reducible refine (HS1.out.none (by decide)).mono ?_); rintro e w2 ⟨A2, c2, rfl, h2, o2⟩)
  have HS2 := Lib.hid h2
  have hp2 := Nat.lt_of_lt_of_le hp1 o2.size
  have hb2 := Nat.lt_of_lt_of_le hb1 o2.size
  clear h2 o2 hp1 hb1 HS1
  go_wp2_with fail
  ((with_reducible refine (ofE_sto HS2.out (s := 7) (by decide) (by decide) rfl rfl rfl rfl).mono ?_); rintro e w3 ⟨rfl, h3, o3⟩)
  have HS3 := Lib.hid h3
  have hp3 := Nat.lt_of_lt_of_le hp2 o3.size
  have hb3 := Nat.lt_of_lt_of_le hb2 o3.size
  clear h3 o3 hp2 hb2 HS2
  go_wp2_with fail
  obtain ⟨x3, hx3⟩ : ∃ X, X = w3.alloc (.cells #[.int .i64 7, .int .u32 10, .bool false, .int .u64 8, .int .u64 12, .int .u64 16] 62) := ⟨_, rfl⟩
  rw [← hx3]
  obtain ⟨t3, b3, hp3', hb3', hB3⟩ := box_new HS3.out hp3 hb3 hx3.symm
  have HT3 := Lib.hid t3
  have HB3 := Lib.hid b3
  generalize w3.heap.size = g3 at *
  clear t3 b3 hB3 hx3 HS3 hp3 hb3
  go_wp2_with fail
  ((with_reducible refine (ofE_sto HT3.out (s := 3) (by decide) (by decide) rfl rfl rfl rfl).mono ?_); rintro e w4 ⟨rfl, h4, o4⟩)
  have HS4 := Lib.hid h4
  have hp4 := Nat.lt_of_lt_of_le hp3' o4.size
  have hb4 := Nat.lt_of_lt_of_le hb3' o4.size
  have HBx3 := Lib.hid (HB3.out.onl o4)
  clear h4 o4 hp3' hb3' HT3 HB3
  go_wp2_with fail
  obtain ⟨x4, hx4⟩ : ∃ X, X = w4.alloc (.cells #[.int .i64 3, .int .u32 6, .bool false, .int .u64 4, .int .u64 8, .int .u64 12] 62) := ⟨_, rfl⟩
  rw [← hx4]
  obtain ⟨t4, b4, hp4', hb4', hB4⟩ := box_new HS4.out hp4 hb4 hx4.symm
  have HT4 := Lib.hid t4
  have HB4 := Lib.hid b4
  have HBb34 := Lib.hid (HBx3.out.below hB4)
  clear HBx3
  generalize w4.heap.size = g4 at *
  clear t4 b4 hB4 hx4 HS4 hp4 hb4
  go_wp2_with fail
  ((with_reducible refine (ofE_sto HT4.out (s := 5) (by decide) (by decide) rfl rfl rfl rfl).mono ?_); rintro e w5 ⟨rfl, h5, o5⟩)
  have HS5 := Lib.hid h5
  have hp5 := Nat.lt_of_lt_of_le hp4' o5.size
  have hb5 := Nat.lt_of_lt_of_le hb4' o5.size
  have HBx4 := Lib.hid (HB4.out.onl o5)
  have HBx3 := Lib.hid (HBb34.out.onl o5)
  clear HBb34
  clear h5 o5 hp4' hb4' HT4 HB4
  obtain ⟨t5, b5, hp5', hb5', hB5⟩ := box_new (g := 8) (s := 5) (c0 := 6) (c1 := 10) (c2 := 14) HS5.out hp5 hb5 rfl
  have HT5 := Lib.hid (show StO P753 [] W p b _ _ from t5)
  have HB5 := Lib.hid b5
  have HBb35 := Lib.hid (HBx3.out.below hB5)
  have HBb45 := Lib.hid (HBx4.out.below hB5)
  obtain ⟨a0, a1, a2, a3, a4, a5⟩ := HBb35.out.six
  obtain ⟨d0, d1, d2, d3, d4, d5⟩ := HBb45.out.six
  clear t5 b5 HBx3 HBx4 HS5 hp5 hb5 hB5
  go_wp2_with fail
  have hz5 := World.size_alloc w5 (.cells #[.int .i64 5, .int .u32 8, .bool false, .int .u64 6, .int .u64 10, .int .u64 14] 62)
  ((with_reducible refine (given_row (n := 2) (N := 4) (cs := #[.int .i64 7, .int .u32 10, .bool false, .int .u64 8, .int .u64 12, .int .u64 16, .int .i64 3, .int .u32 6, .bool false, .int .u64 4, .int .u64 8, .int .u64 12]) (xs := [⟨7, 10, false, 8, 12, 16⟩, ⟨3, 6, false, 4, 8, 12⟩]) HT5.out hz5 (by decide) rfl rfl may73 is73 (by simp) (by decide) rfl).mono ?_); rintro e w6 ⟨rfl, h6, o6⟩)
  have HS6 := Lib.hid h6
  have HB35 := Lib.hid (HBb35.out.onl o6)
  have HB45 := Lib.hid (HBb45.out.onl o6)
  have HB55 := Lib.hid (HB5.out.onl o6)
  clear a0 a1 a2 a3 a4 a5 d0 d1 d2 d3 d4 d5 hz5
  obtain ⟨a0, a1, a2, a3, a4, a5⟩ := HB55.out.six
  clear h6 o6 HBb35 HBb45 HB5 HT5 hp5' hb5'
  generalize w5.heap.size = g5 at *
  go_wp2_with fail
  ((with_reducible refine (given_row (n := 1) (N := 3) (cs := #[.int .i64 5, .int .u32 8, .bool false, .int .u64 6, .int .u64 10, .int .u64 14]) (xs := [⟨5, 8, false, 6, 10, 14⟩]) HS6.out rfl (by decide) rfl rfl may5 is5 (by decide) (by decide) rfl).mono ?_); rintro e w7 ⟨rfl, h7, o7⟩)
  have HS7 := Lib.hid (show StO _ (5 :: [7, 3]) W p b _ w7 from h7)
  have HB37 := Lib.hid (HB35.out.onl o7)
  have HB47 := Lib.hid (HB45.out.onl o7)
  have HB57 := Lib.hid (HB55.out.onl o7)
  clear a0 a1 a2 a3 a4 a5 h7 o7 HB35 HB45 HB55 HS6
  go_wp2_with fail
  ((with_reducible refine (taken_i (n := 3) (N := 17) HS7.out (by decide) (by decide) rfl (by decide)).mono ?_); rintro e w8 ⟨A8, c8, rfl, r8, h8, o8⟩)
  have HS8 := Lib.hid h8
  have HR8 := Lib.hid r8
  obtain ⟨a0, a1, a2, a3, a4, a5⟩ := (HB37.out.onl o8).six
  obtain ⟨d0, d1, d2, d3, d4, d5⟩ := (HB47.out.onl o8).six
  obtain ⟨f0, f1, f2, f3, f4, f5⟩ := (HB57.out.onl o8).six
  clear h8 r8 o8 HB37 HB47 HB57 HS7
  go_wp2_with fail
  ((with_reducible refine (same_row (n := 3) (cs := #[.int .i64 5, .int .u32 8, .bool false, .int .u64 6, .int .u64 10, .int .u64 14, .int .i64 7, .int .u32 10, .bool false, .int .u64 8, .int .u64 12, .int .u64 16, .int .i64 3, .int .u32 6, .bool false, .int .u64 4, .int .u64 8, .int .u64 12]) (ys := [⟨5, 8, false, 6, 10, 14⟩, ⟨7, 10, false, 8, 12, 16⟩, ⟨3, 6, false, 4, 8, 12⟩]) HR8.out rfl rfl (by decide) rfl rfl).mono ?_); rintro e w9 ⟨rfl, h9⟩)
  have HS9 := Lib.hid (HS8.out.low.trans (h9.mono HS8.out.low.size))
  clear h9
  go_wp2_with fail
  go_ret
  exact ⟨rfl, HS9.out⟩
end
end Go.Proofs.YtjpanofkikfeoaaGreatDoor
