/-
  The program's Next of layer 3: the command at a place; conditions: the table of sizes reads as the program lays it; the bytes lie as it says.
-/
import Derived.Test.YtlgfdemggkiojaaDoorF5
namespace Go.Proofs.YtlgfdemggkiojaaDoor
open Go.RowKit

theorem below_no (n many : Int) (w : World) (h : ¬ (0 ≤ n ∧ n < many)) : Calls Tryd.prog 24 #[.int .i64 n, .int .i64 many] w fun e w' => e = .returned (.bool false) ∧ w = w' := by
  have hb := below_any n many w
  rwa [show belowB n many = false by simpa [belowB] using h] at hb
theorem below_yes (n many : Int) (w : World) (h : 0 ≤ n ∧ n < many) : Calls Tryd.prog 24 #[.int .i64 n, .int .i64 many] w fun e w' => e = .returned (.bool true) ∧ w = w' := by
  have hb := below_any n many w
  rwa [show belowB n many = true by simpa [belowB] using h] at hb

def noCmd : Value := .tuple #[.agg #[.int .u8 0, .int .i64 0, .int .i64 0, .int .i64 0, .int .i64 0, .int .u8 0, .int .u8 0, .int .u64 0, .int .u64 0], .bool false]
set_option maxHeartbeats 1000000 in
theorem next_out (A : Option Addr) (n cap : Nat) (at_ : Int) (w : World) (hn : n ≤ cap) (hc : cap ≤ 9223372036854775807) (h : ¬ (0 ≤ at_ ∧ at_ < ((min n 65536 : Nat) : Int))) :
    Calls Tryd.prog 12 #[.slice A n cap, .int .i64 at_] w fun e w' => e = .returned noCmd ∧ Below w.heap.size w w' := by
  have hb := fun w => below_no _ _ w h
  clear h
  by_cases hm : n ≤ 65536
  · rw [Nat.min_eq_left hm] at hb
    go_enter Tryd.func12, Tryd.ntmps12
    go_wp2_with (go_at_call 24; refine (hb _).mono ?_; rintro e w' ⟨rfl, rfl⟩)
    exact bodyPost_ret (v := noCmd) (by simp [results, Tryd.results12, go_sem, noCmd]) rfl ⟨rfl, (Below.refl _ _).alloc (Nat.le_refl _) _⟩
  · rw [Nat.min_eq_right (by omega)] at hb
    have hm' : 65536 < n := by omega
    clear hm
    go_enter Tryd.func12, Tryd.ntmps12
    go_wp2_with (go_at_call 24; refine (hb _).mono ?_; rintro e w' ⟨rfl, rfl⟩)
    exact bodyPost_ret (v := noCmd) (by simp [results, Tryd.results12, go_sem, noCmd]) rfl ⟨rfl, (Below.refl _ _).alloc (Nat.le_refl _) _⟩
theorem decode_any (g off cap : Nat) (b : List UInt8) (w : World) (hl : Lay w) (hb : Bys w g off b) (h0 : 0 < b.length) :
    Calls Tryd.prog 25 #[.slice (some ⟨g, off, none⟩) b.length cap] w fun e w' => e = .returned (dec b).v ∧ Below w.heap.size w w' := by
  by_cases hs : b.length < sizeOf' (kindOf (byt b 0))
  · exact decode_short g off cap b w hl hb h0 hs
  · exact decode_long g off cap b w hl hb h0 (by omega)
/-- What Next hands back where a command stands. -/
def someCmd (c : Cm) : Value := .tuple #[c.v, .bool true]
set_option maxHeartbeats 2000000 in
theorem next_walk (g off n cap m p : Nat) (k a t s o ky v to : Int) (w : World) (hn : n ≤ cap) (hc : cap ≤ 9223372036854775807) (hm : (n ≤ 65536 ∧ m = n) ∨ (65536 < n ∧ m = 65536)) (hp : p < m) (t0 : 0 ≤ to) (t1 : to ≤ 5)
    (hd : Calls Tryd.prog 25 #[.slice (some ⟨g, off + p, none⟩) (m - p) (cap - p)] (w.alloc zeroCmd) fun e w' => e = .returned (⟨k, 0, to, a, t, s, o, ky, v⟩ : Cm).v ∧ Below (w.alloc zeroCmd).heap.size (w.alloc zeroCmd) w') :
    Calls Tryd.prog 12 #[.slice (some ⟨g, off, none⟩) n cap, .int .i64 p] w fun e w' => e = .returned (someCmd ⟨k, p, p + to, a, t, s, o, ky, v⟩) ∧ Below w.heap.size w w' := by
  have hb := fun w => below_yes (p : Int) (m : Int) w (by omega)
  have hcp : ¬ cap = p := by omega
  unfold zeroCmd at hd
  simp only [Cm.v] at hd
  simp only [someCmd, Cm.v]
  have bx0 := Box9.new w 34 (.int .u8 0) (.int .i64 0) (.int .i64 0) (.int .i64 0) (.int .i64 0) (.int .u8 0) (.int .u8 0) (.int .u64 0) (.int .u64 0)
  have hb0 : Below w.heap.size w (w.alloc zeroCmd) := (Below.refl _ _).alloc (Nat.le_refl _) _
  have HD := Lib.hid hd
  have HX := Lib.hid bx0
  have HB0 := Lib.hid hb0
  clear hd bx0 hb0
  rcases hm with ⟨hm, rfl⟩ | ⟨hm, rfl⟩
  all_goals
    go_enter Tryd.func12, Tryd.ntmps12
    go_wp2_with (go_at_call 24; refine (hb _).mono ?_; rintro e w' ⟨rfl, rfl⟩)
    refine HD.out.mono ?_
    rintro e w1 ⟨rfl, hb1⟩
    have BP := Lib.hid (HX.out.below hb1 (by simp))
    have HB := Lib.hid (HB0.out.trans (hb1.mono HB0.out.size))
    have hwp : w.heap.size ≤ w.heap.size := Nat.le_refl _
    clear hb1 HD HX HB0 hb hcp
    revert BP hwp
    generalize hq : w.heap.size = q at *
    intro BP hwp
    have HQ := Lib.hid hq
    clear hq
    go_wp2_with (first
      | (refine wpList_store_put rfl 34 (.tmp 4) (.tmp 20) rfl q rfl _ rfl 34 _ BP.out isz34 rfl rfl ?_; intro w2 hp2; have BP2 := Lib.hid hp2.at_; have c2 : w2.cell? ⟨q, 2, none⟩ = some (.int .i64 to) := by (rw [cell_of_row _ _ _ _ _ _ hp2.at_]; rfl)
         have HB2 := Lib.hid (hp2.below HB.out hwp); clear hp2)
      | (refine wpList_store_fld rfl 3 (.tmp 26) (.tmp 21) rfl q 1 rfl .i64 p rfl 34 _ BP2.out isz3 (by simp) ?_; intro w3 hp3; have bq := hp3.at_; simp only [List.setIfInBounds_toArray, List.set_cons_succ, List.set_cons_zero] at bq; have BP3 := Lib.hid bq; clear bq; have HB3 := Lib.hid (hp3.below HB2.out hwp); clear hp3)
      | (refine wpList_store_fld rfl 3 (.tmp 27) (.tmp 25) rfl q 2 rfl .i64 (p + to) rfl 34 _ BP3.out isz3 (by simp) ?_; intro w4 hp4; have bq := hp4.at_; simp only [List.setIfInBounds_toArray, List.set_cons_succ, List.set_cons_zero] at bq; have BP4 := Lib.hid bq; clear bq; have HB4 := Lib.hid (hp4.below HB3.out hwp); clear hp4)
      | (refine wpList_load_row rfl 34 (.tmp 4) rfl q rfl 34 _ (0, 0) _ BP4.out Tryd.underlying34 rfl isz34 ?_)
      | (refine wpList_store_put rfl 34 (.tmp 4) (.tmp 28) rfl q rfl _ rfl 34 _ BP4.out isz34 rfl rfl ?_; intro w5 hp5; have BP5 := Lib.hid hp5.at_; have HB5 := Lib.hid (hp5.below HB4.out hwp); clear hp5))
    refine bodyPost_ret (results_cell_tmp rfl _ _ q 34 _ (0, 0) _ rfl BP5.out Tryd.underlying34 rfl isz34) rfl ⟨rfl, ?_⟩
    have hb5 := HB5.out
    rwa [← HQ.out] at hb5
/-- A slice that holds these bytes, nil let in. -/
def Sl (w : World) (A : Option Addr) (l : List UInt8) : Prop := l ≠ [] → ∃ g off, A = some ⟨g, off, none⟩ ∧ Bys w g off l
theorem Sl.below {w w' : World} {A : Option Addr} {l : List UInt8} (h : Sl w A l) (hb : Below w.heap.size w w') : Sl w' A l := fun hl => by
  obtain ⟨g, off, rfl, hB⟩ := h hl
  exact ⟨g, off, rfl, hB.below hb⟩
theorem Sl.nil (w : World) (A : Option Addr) : Sl w A [] := fun h => absurd rfl h
theorem Sl.of {w : World} {g off : Nat} {l : List UInt8} (h : Bys w g off l) : Sl w (some ⟨g, off, none⟩) l := fun _ => ⟨g, off, rfl, h⟩
theorem nextC_some {l : List UInt8} {at_ : Int} {c : Cm} (h : nextC l at_ = some c) : ∃ p : Nat, at_ = p ∧ p < min l.length 65536 ∧ c = (dec ((l.take most).drop p)).shift p := by
  have hm := most_eq
  by_cases hp : 0 ≤ at_ ∧ at_ < ((l.take most).length : Int)
  · have e : nextC l at_ = some ((dec ((l.take most).drop at_.toNat)).shift at_) := if_pos hp
    rw [e] at h
    have hi : ((at_.toNat : Nat) : Int) = at_ := by omega
    rw [List.length_take] at hp
    refine ⟨at_.toNat, by omega, by omega, ?_⟩
    rw [hi]
    exact (Option.some.inj h).symm
  · have e : nextC l at_ = none := if_neg hp
    rw [e] at h
    cases h
theorem dlen_le (b : List UInt8) : dlen b ≤ 5 := by
  have hs := sizeOf_bd (kindOf (byt b 0))
  unfold dlen
  split <;> omega
theorem next_none (A : Option Addr) (cap : Nat) (l : List UInt8) (at_ : Int) (w : World) (hn : l.length ≤ cap) (hc : cap ≤ 9223372036854775807) (h : nextC l at_ = none) :
    Calls Tryd.prog 12 #[.slice A l.length cap, .int .i64 at_] w fun e w' => e = .returned noCmd ∧ Below w.heap.size w w' := by
  refine next_out A l.length cap at_ w hn hc fun hp => ?_
  have hm := most_eq
  have e : nextC l at_ = some ((dec ((l.take most).drop at_.toNat)).shift at_) := if_pos (by rw [List.length_take]; omega)
  rw [e] at h
  cases h
theorem next_some (A : Option Addr) (cap : Nat) (l : List UInt8) (at_ : Int) (c : Cm) (w : World) (hl : Lay w) (hs : Sl w A l) (hn : l.length ≤ cap) (hc : cap ≤ 9223372036854775807) (h : nextC l at_ = some c) :
    Calls Tryd.prog 12 #[.slice A l.length cap, .int .i64 at_] w fun e w' => e = .returned (someCmd c) ∧ Below w.heap.size w w' := by
  obtain ⟨p, rfl, hp, hcd⟩ := nextC_some h
  have hne : l ≠ [] := by rintro rfl; simp at hp
  obtain ⟨g, off, rfl, hB⟩ := hs hne
  have hlen : ((l.take most).drop p).length = min l.length 65536 - p := by rw [List.length_drop, List.length_take, Nat.min_comm, most_eq]
  have hb0 : Below w.heap.size w (w.alloc zeroCmd) := (Below.refl _ _).alloc (Nat.le_refl _) _
  have hd := decode_any g (off + p) (cap - p) ((l.take most).drop p) (w.alloc zeroCmd) (hl.below hb0) (((hB.take most).drop p).below hb0) (by rw [hlen]; omega)
  rw [hlen] at hd
  have hto := dec_to ((l.take most).drop p)
  have hfr := dec_fr ((l.take most).drop p)
  have h5 := dlen_le ((l.take most).drop p)
  generalize dec ((l.take most).drop p) = d at *
  obtain ⟨k, fr, to, a, t, s, o, ky, v⟩ := d
  simp only at hto hfr
  subst hfr
  have hw := next_walk g off l.length cap (min l.length 65536) p k a t s o ky v to w hn hc (by omega) hp (by omega) (by omega) hd
  rw [hcd]
  have e : (⟨k, 0, to, a, t, s, o, ky, v⟩ : Cm).shift p = ⟨k, p, p + to, a, t, s, o, ky, v⟩ := by simp [Cm.shift, Int.add_comm]
  rw [e]
  exact hw
end Go.Proofs.YtlgfdemggkiojaaDoor
