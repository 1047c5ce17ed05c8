/-
  What the laws of stage 4 ask of the program; the chapter's examples; the laws PicksNext and PicksFair walked; conditions: the program's four calls do as the plain side says; what lies lies as it says.
-/
import Derived.Test.YtmominipgkchjaaD2
namespace Go.Proofs.Ytmominipgkchjaa
open Go.RowKit

def I64 (n : Int) : Prop := -9223372036854775808 ≤ n ∧ n ≤ 9223372036854775807
/-- The program's calls do as the plain side says. -/
structure Prg : Prop where
  pick : ∀ (n : Int) (A : Option Addr) (cap : Nat) (l : List Bool) (w : World), I64 n → Row w A (l.map bV) → l.length ≤ cap → cap ≤ 9223372036854775807 → l.length ≤ 1000 →
    Calls Try.prog 9 #[.int .i64 n, .slice A l.length cap] w fun e w' => e = .returned (.int .i64 (pickC n l)) ∧ Below w.heap.size w w'
  turn : ∀ (n : Int) (A : Option Addr) (cap : Nat) (l : List Bool) (w : World), I64 n → Row w A (l.map bV) → l.length ≤ cap → cap ≤ 9223372036854775807 → l.length ≤ 1000 →
    Calls Try.prog 11 #[.int .i64 n, .slice A l.length cap] w fun e w' => e = .returned (.int .i64 (turnC n l)) ∧ Below w.heap.size w w'
  rest : ∀ (n : Int) (A : Option Addr) (cap : Nat) (ps : List Int) (w : World), I64 n → Row w A (ps.map iV) → ps.length ≤ cap → cap ≤ 9223372036854775807 → ps.length ≤ 1000 →
    Calls Try.prog 14 #[.slice A ps.length cap, .int .i64 n] w fun e w' => e = .returned (.int .i64 (restC ps n : Int)) ∧ Below w.heap.size w w'
  fair : ∀ (within : Int) (A B : Option Addr) (ca cb : Nat) (ps : List Int) (who : List Bool) (w : World), I64 within → Row w A (ps.map iV) → Row w B (who.map bV) → ps.length ≤ ca → ca ≤ 9223372036854775807 → who.length ≤ cb → cb ≤ 9223372036854775807 → ps.length ≤ 1000 → who.length ≤ 1000 →
    Calls Try.prog 16 #[.slice A ps.length ca, .slice B who.length cb, .int .i64 within] w fun e w' => e = .returned (.bool (fairC ps who within)) ∧ Below w.heap.size w w'

theorem row_new (w : World) (t : TypeId) (vs : List Value) : Row (w.alloc (.cells vs.toArray t)) (some ⟨w.heap.size, 0, Option.none⟩) vs := fun _ => ⟨_, 0, rfl, fun i v hi => by
  rw [Nat.zero_add, cell_of_row _ _ i vs.toArray t (0, 0) (heap_alloc_new w _)]
  simpa using hi⟩
def ex1 : List Bool := [true, false, true, true]
def ex2 : List Bool := [true, false, true, false]
def exL : List Int := [1, 2, 2, 1, 3]
def exW : List Bool := [false, true, true]
theorem ex_pick : pickC 5 ex1 = 3 := by decide
theorem ex_turn : turnC 2 ex2 = 0 := by decide
theorem ex_rest : restC exL 1 = 2 := by decide
theorem ex_fair : fairC exL exW 3 = true := by decide
theorem ex_unfair : fairC exL exW 2 = false := by decide
theorem i64_small {n : Int} (h0 : -1000000 ≤ n) (h1 : n ≤ 1000000) : I64 n := ⟨by omega, by omega⟩
set_option maxHeartbeats 2000000 in
theorem lives_any (H : Prg) (w : World) : Calls Try.prog 8 #[] w fun e w' => e = .returned (.bool true) ∧ Below w.heap.size w w' := by
  go_enter Try.func8, Try.ntmps8
  go_wp2_with fail
  have b1 : Below w.heap.size w (w.alloc (.cells (exL.map iV).toArray 3)) := (Below.refl _ _).alloc (Nat.le_refl _) _
  have r1 := row_new w 3 (exL.map iV)
  have b2 := b1.alloc b1.size (.cells (exW.map bV).toArray 4)
  have r1b := r1.below ((Below.refl _ _).alloc (Nat.le_refl _) (.cells (exW.map bV).toArray 4))
  have r2 := row_new (w.alloc (.cells (exL.map iV).toArray 3)) 4 (exW.map bV)
  have b3 := b2.alloc b2.size (.cells (ex1.map bV).toArray 4)
  have hx := (Below.refl _ ((w.alloc (.cells (exL.map iV).toArray 3)).alloc (.cells (exW.map bV).toArray 4))).alloc (Nat.le_refl _) (.cells (ex1.map bV).toArray 4)
  have R1 := Lib.hid (r1b.below hx)
  have R2 := Lib.hid (r2.below hx)
  have R3 := Lib.hid (row_new ((w.alloc (.cells (exL.map iV).toArray 3)).alloc (.cells (exW.map bV).toArray 4)) 4 (ex1.map bV))
  have HB3 := Lib.hid b3
  rw [World.size_alloc] at R2
  rw [World.size_alloc, World.size_alloc] at R3
  clear b1 r1 b2 r1b r2 b3 hx
  change Calls _ _ _ (((w.alloc (.cells (exL.map iV).toArray 3)).alloc (.cells (exW.map bV).toArray 4)).alloc (.cells (ex1.map bV).toArray 4)) _
  revert R1 R2 R3 HB3
  generalize ((w.alloc (.cells (exL.map iV).toArray 3)).alloc (.cells (exW.map bV).toArray 4)).alloc (.cells (ex1.map bV).toArray 4) = w3
  intro R1 R2 R3 HB3
  refine (H.pick 5 _ 4 ex1 w3 (i64_small (by decide) (by decide)) R3.out (by decide) (by omega) (by decide)).mono ?_
  rintro e w4 ⟨rfl, hb⟩
  rw [ex_pick]
  have HB4 := Lib.hid (HB3.out.trans (hb.mono HB3.out.size))
  have R1a := Lib.hid (R1.out.below hb)
  have R2a := Lib.hid (R2.out.below hb)
  clear R1 R2 R3 hb HB3
  go_wp2_with fail
  have hx := (Below.refl _ w4).alloc (Nat.le_refl _) (.cells (ex2.map bV).toArray 4)
  have HB5 := Lib.hid (HB4.out.trans (hx.mono HB4.out.size))
  have R1b := Lib.hid (R1a.out.below hx)
  have R2b := Lib.hid (R2a.out.below hx)
  have R3b := Lib.hid (row_new w4 4 (ex2.map bV))
  clear hx HB4 R1a R2a
  refine (H.turn 2 (some ⟨w4.heap.size, 0, Option.none⟩) 4 ex2 (w4.alloc (.cells (ex2.map bV).toArray 4)) (i64_small (by decide) (by decide)) R3b.out (by decide) (by omega) (by decide)).mono ?_
  rintro e w6 ⟨rfl, hb⟩
  rw [ex_turn]
  have HB6 := Lib.hid (HB5.out.trans (hb.mono HB5.out.size))
  have R1c := Lib.hid (R1b.out.below hb)
  have R2c := Lib.hid (R2b.out.below hb)
  clear hb HB5 R1b R2b R3b
  go_wp2_with fail
  refine (H.rest 1 _ 5 exL w6 (i64_small (by decide) (by decide)) R1c.out (by decide) (by omega) (by decide)).mono ?_
  rintro e w7 ⟨rfl, hb⟩
  rw [ex_rest]
  have HB7 := Lib.hid (HB6.out.trans (hb.mono HB6.out.size))
  have R1d := Lib.hid (R1c.out.below hb)
  have R2d := Lib.hid (R2c.out.below hb)
  clear hb HB6 R1c R2c
  go_wp2_with fail
  refine (H.fair 3 _ _ 5 3 exL exW w7 (i64_small (by decide) (by decide)) R1d.out R2d.out (by decide) (by omega) (by decide) (by omega) (by decide) (by decide)).mono ?_
  rintro e w8 ⟨rfl, hb⟩
  rw [ex_fair]
  have HB8 := Lib.hid (HB7.out.trans (hb.mono HB7.out.size))
  have R1e := Lib.hid (R1d.out.below hb)
  have R2e := Lib.hid (R2d.out.below hb)
  clear hb HB7 R1d R2d
  go_wp2_with fail
  refine (H.fair 2 _ _ 5 3 exL exW w8 (i64_small (by decide) (by decide)) R1e.out R2e.out (by decide) (by omega) (by decide) (by omega) (by decide) (by decide)).mono ?_
  rintro e w9 ⟨rfl, hb⟩
  rw [ex_unfair]
  have HB9 := Lib.hid (HB8.out.trans (hb.mono HB8.out.size))
  clear hb HB8 R1e R2e
  go_wp2_with fail
  go_ret
  exact ⟨rfl, HB9.out⟩
set_option maxHeartbeats 2000000 in
theorem lawNext (H : Prg) (n last : Int) (A : Option Addr) (cap : Nat) (l : List Bool) (w : World) (hn : I64 n) (hlast : I64 last) (hs : Row w A (l.map bV)) (hcap : A = Option.none → cap = 0) (hl : l.length ≤ 300) :
    Calls Try.prog 3 #[.int .i64 n, .int .i64 last, .slice A l.length cap] w fun e w' => e = .returned (.bool true) ∧ Below w.heap.size w w' := by
  obtain ⟨i0, hi, hz0, hz1, hz2⟩ := info_parts Try_infoB
  have HS := Lib.hid hs
  have HCAP := Lib.hid hcap
  have HN := Lib.hid hn
  have HLA := Lib.hid hlast
  clear hs hcap hn hlast
  go_enter Try.func3, Try.ntmps3
  go_wp2_with (at_builtin; refine append_row rfl (.const (.slice Option.none 0 0)) (.tmp 12) 22 4 rfl Try.underlying22 i0 _ 1 hi hz0 hz1 hz2 rfl (by decide) w.heap.size _ [] rfl (World.ownsRow_nil _ _ _ _) A l.length cap (l.map bV) (by rw [List.length_map]) rfl HS.out (bV_one l) HCAP.out (by simp; omega) (Nat.le_refl _) ?_; intro v1 w1 ho1 hb1; rw [List.nil_append, List.length_map] at ho1; obtain ⟨B, c1, rfl, q1, q2, _⟩ := own_slice ho1; have HR1 := Lib.hid (row_of_own ho1); have HB1 := Lib.hid hb1; clear ho1 hb1)
  refine (H.pick n B c1 l w1 HN.out HR1.out q1 q2 (by omega)).mono ?_
  rintro e w2 ⟨rfl, hb⟩
  have HB2 := Lib.hid (HB1.out.trans (hb.mono HB1.out.size))
  have HR2 := Lib.hid (HR1.out.below hb)
  clear hb HB1 HR1
  go_wp2_with fail
  refine (rpick_any n A cap l w2 (HS.out.below (HB2.out.mono (Nat.le_refl _))) (by omega)).mono ?_
  rintro e w3 ⟨rfl, hb⟩
  have HB3 := Lib.hid (HB2.out.trans (hb.mono HB2.out.size))
  have HR3 := Lib.hid (HR2.out.below hb)
  clear hb HB2 HR2
  generalize pickC n l = x
  go_wp2_with fail
  refine (H.turn last B c1 l w3 HLA.out HR3.out q1 q2 (by omega)).mono ?_
  rintro e w4 ⟨rfl, hb⟩
  have HB4 := Lib.hid (HB3.out.trans (hb.mono HB3.out.size))
  have HR4 := Lib.hid (HR3.out.below hb)
  clear hb HB3 HR3
  go_wp2_with fail
  refine (rturn_any last A cap l w4 (HS.out.below (HB4.out.mono (Nat.le_refl _))) (by omega)).mono ?_
  rintro e w5 ⟨rfl, hb⟩
  have HB5 := Lib.hid (HB4.out.trans (hb.mono HB4.out.size))
  have HR5 := Lib.hid (HR4.out.below hb)
  clear hb HB4 HR4
  generalize turnC last l = y
  go_wp2_with fail
  refine (same_any B A c1 cap l w5 HR5.out (HS.out.below (HB5.out.mono (Nat.le_refl _))) (by omega)).mono ?_
  rintro e w6 ⟨rfl, hb⟩
  have HB6 := Lib.hid (HB5.out.trans (hb.mono HB5.out.size))
  clear hb HB5 HR5
  go_wp2_with fail
  refine (lives_any H w6).mono ?_
  rintro e w7 ⟨rfl, hb⟩
  have HB7 := Lib.hid (HB6.out.trans (hb.mono HB6.out.size))
  clear hb HB6
  go_wp2_with fail
  go_ret
  exact ⟨rfl, HB7.out⟩
set_option maxHeartbeats 1000000 in
theorem lawNext_long (H : Prg) (n last : Int) (A : Option Addr) (m cap : Nat) (w : World) (hm : 300 < m) :
    Calls Try.prog 3 #[.int .i64 n, .int .i64 last, .slice A m cap] w fun e w' => e = .returned (.bool true) ∧ Below w.heap.size w w' := by
  go_enter Try.func3, Try.ntmps3
  go_wp2_with (go_at_call 8; refine (lives_any H _).mono ?_; rintro e w4 ⟨rfl, hb4⟩; have HL4 := Lib.hid hb4; clear hb4)
  go_ret
  exact ⟨rfl, HL4.out⟩
end Go.Proofs.Ytmominipgkchjaa
