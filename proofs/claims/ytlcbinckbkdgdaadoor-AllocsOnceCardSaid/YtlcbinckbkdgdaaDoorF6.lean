/-
  Package frees: what a Pop got; a new memory; the law's examples (lives); condition: the tables as laid.
-/
import Derived.Test.YtlcbinckbkdgdaaDoorF5
import Derived.Test.YtlcbinckbkdgdaaDoorO0
namespace Go.Proofs.YtlcbinckbkdgdaaDoor
open Go.RowKit Go.Maps

theorem Only3.below {p b q B : Nat} {X Y : World} (h : Only3 p b q X Y) (hp : B ≤ p) (hb : B ≤ b) (hq : B ≤ q) (hB : B ≤ X.heap.size) : Below B X Y :=
  ⟨h.os, h.tape, h.output, h.size, fun k hk => h.block k (by omega) (by omega) (by omega) (by omega)⟩
section
variable {p b q st : Nat} {nx h to : Int} {w : World}
theorem got_nil (w : World) : Calls Tryd.prog 48 #[.pointer none] w fun e w' => e = .returned (.tuple #[.int .i64 0, .bool false]) ∧ w = w' := by
  go_enter Tryd.func48, Tryd.ntmps48
  go_wp2_with fail
  go_ret2
  exact ⟨rfl, rfl⟩
theorem got_run (hn : nx ≠ 0) (o : OpAt 170 q nx h to w) : Calls Tryd.prog 48 #[.pointer (some ⟨q, 0, none⟩)] w fun e w' => e = .returned (.tuple #[.int .i64 0, .bool false]) ∧ w = w' := by
  have HO := Lib.hid o
  have hz : (nx == 0) = false := by simpa using hn
  clear o hn
  go_enter Tryd.func48, Tryd.ntmps48
  go_wp2_with (go_at_call 57; refine (over_any HO.out).mono ?_; rintro e w' ⟨rfl, rfl⟩)
  go_ret2
  exact ⟨rfl, rfl⟩
theorem got_none (hL : Lay w) (hh : U64 h) (hs : wSlot h < 0) (o : OpAt 170 q 0 h to w) : Calls Tryd.prog 48 #[.pointer (some ⟨q, 0, none⟩)] w fun e w' => e = .returned (.tuple #[.int .i64 0, .bool false]) ∧ ∃ n, w' = w.drewN n := by
  have HO := Lib.hid o
  have HL := Lib.hid hL
  clear o hL
  go_enter Tryd.func48, Tryd.ntmps48
  go_wp2_with (first
    | (go_at_call 57; refine (over_any HO.out).mono ?_; rintro e w' ⟨rfl, rfl⟩)
    | (go_at_call 64; refine (first_any HL.out hh HO.out).mono ?_; rintro e w' ⟨rfl, n, rfl⟩))
  go_ret2
  exact ⟨rfl, n, rfl⟩
theorem got_slot (hL : Lay w) (hh : U64 h) (hs : 0 ≤ wSlot h) (o : OpAt 170 q 0 h to w) : Calls Tryd.prog 48 #[.pointer (some ⟨q, 0, none⟩)] w fun e w' => e = .returned (.tuple #[.int .i64 (wSlot h), .bool true]) ∧ ∃ n, w' = w.drewN n := by
  have HO := Lib.hid o
  have HL := Lib.hid hL
  clear o hL
  go_enter Tryd.func48, Tryd.ntmps48
  go_wp2_with fail
  refine (over_any HO.out).mono ?_
  rintro e w' ⟨rfl, rfl⟩
  go_wp2_with fail
  refine (first_any HL.out hh HO.out).mono ?_
  rintro e w' ⟨rfl, n, rfl⟩
  have HB := Lib.hid (show Below w.heap.size w (w.drewN n) from below_drewN' (Below.refl _ _) n)
  go_wp2_with fail
  refine (first_any (HL.out.below HB.out) hh (HO.out.below HB.out)).mono ?_
  rintro e w' ⟨rfl, j, rfl⟩
  go_wp2_with fail
  go_ret2
  exact ⟨rfl, _, rfl⟩
/-- A new memory. -/
def M0 : MS := ⟨0, fun _ => 0⟩
theorem new_fm (hL : Lay w) (hM : LayM w) : Calls Tryd.prog 29 #[] w fun e w' => ∃ p b, e = .returned (.pointer (some ⟨p, 0, none⟩)) ∧ FM p b 0 M0 w' ∧ Below w.heap.size w w' ∧ w.heap.size ≤ b ∧ b < p := by
  refine (new_some w).mono ?_
  rintro e w' ⟨p, b, rfl, hp, hb, h1, h2⟩
  have := hM.1
  have := hL.1
  exact ⟨p, b, rfl, ⟨⟨0, _, _, _, _, _, _, _, _, Nat.le_refl _, isMap_empty, hp, rfl, fun _ _ _ _ => rfl⟩, hL.below hb, hM.below hb, by omega, by omega⟩, hb, h1, h2⟩
end
end Go.Proofs.YtlcbinckbkdgdaaDoor
