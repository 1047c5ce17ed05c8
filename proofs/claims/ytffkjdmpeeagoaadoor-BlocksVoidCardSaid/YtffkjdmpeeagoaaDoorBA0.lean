/-
  The law's small functions of layer 11: how many blocks there are, whether nobody has a thread of a block that is not there, a block's address; condition: the tables as laid, the memory lies as it says, numbers of their kinds.
-/
import Derived.Test.YtffkjdmpeeagoaaDoorTB4
import Derived.Test.YtffkjdmpeeagoaaDoorBP2
import Derived.OwnWalk
namespace Go.Proofs.YtffkjdmpeeagoaaDoor
open Go.RowKit Go.Maps

section
variable {p b : Nat} {n : Int} {M : MV} {w : World}
theorem blockA_any (i : Int) (w : World) : Calls Tryd.prog 31 #[.int .i64 i] w fun e w' => e = .returned (.agg #[.int .u8 7, .int .i64 i, .int .i64 0]) ∧ Below w.heap.size w w' := by
  go_enter Tryd.func31, Tryd.ntmps31
  go_wp2
  exact bodyPost_ret (v := .agg #[.int .u8 7, .int .i64 i, .int .i64 0]) (by simp [results, Tryd.results31, go_sem]) rfl ⟨rfl, (Below.refl _ _).alloc (Nat.le_refl _) _⟩
theorem many_any (F : VX p b M w) (hs : M.s.st < 1000000) (hN : M.V adN = n) (hn : 0 ≤ n ∧ n ≤ 4) : Calls Tryd.prog 27 #[.pointer (some ⟨p, 0, none⟩)] w fun e w' => e = .returned (.int .i64 n) ∧ VX p b (ldM M adN) w' ∧ Only p b w w' := by
  have HF := Lib.hid F
  have hr : Int.tmod n 100 = n := Int.tmod_eq_of_lt hn.1 (by omega)
  have hw : IntKind.u64.wrap n = n := by simp [IntKind.wrap, IntKind.bits, IntKind.signed]; omega
  have hw2 : IntKind.i64.wrap n = n := by simp [IntKind.wrap, IntKind.bits, IntKind.signed]; omega
  clear F
  go_enter Tryd.func27, Tryd.ntmps27
  go_wp2_with fail
  ((with_reducible refine (HF.out.ldA (v := n) hs adN_at hN).mono ?_); rintro e w1 ⟨rfl, F1, o1⟩)
  have HF1 := Lib.hid F1
  have HO := Lib.hid o1
  clear F1 o1
  go_wp2_with fail
  go_ret
  exact ⟨rfl, HF1.out, HO.out⟩
set_option maxRecDepth 100000 in
set_option maxHeartbeats 4000000 in
/-- Nobody has a thread of a block that is not there. -/
theorem sound_any (F : VX p b M w) (hs : M.s.st < 900000) (hN : M.V adN = n) (hn : 1 ≤ n ∧ n ≤ 4) (hz : ∀ t, 4 * n ≤ t → t < 16 → M.V (adT t 0) = 0) : Calls Tryd.prog 28 #[.pointer (some ⟨p, 0, none⟩)] w fun e w' => e = .returned (.bool true) ∧ ∃ M', VX p b M' w' ∧ M'.V = M.V ∧ M'.s.st ≤ M.s.st + 20 ∧ Onl p b [] w w' := by
  have HF := Lib.hid F
  have HZ := Lib.hid hz
  have h1 : ¬ n < 1 := by omega
  have h2 : ¬ 4 < n := by omega
  have hm : IntKind.i64.wrap (n * 4) = n * 4 := by simp [IntKind.wrap, IntKind.bits, IntKind.signed]; omega
  clear F hz
  go_enter Tryd.func28, Tryd.ntmps28
  go_wp2_with fail
  ((with_reducible refine (many_any HF.out (by omega) hN (by omega)).mono ?_); rintro e w1 ⟨rfl, F1, o1⟩)
  have HS := Lib.hid (show ∃ M1, VX p b M1 w1 ∧ M1.V = M.V ∧ M1.s.st ≤ M.s.st + 1 + 0 ∧ Onl p b [] w w1 from ⟨_, F1, rfl, by show M.s.st + 1 ≤ _; omega, .of_only o1⟩)
  clear F1 o1
  go_wp2_with fail
  go_loopw [4] (fun j wr => ∃ t : Int, 4 * n ≤ t ∧ t ≤ 16 ∧ j = .int .i64 t ∧ Hid (∃ M1, VX p b M1 wr ∧ M1.V = M.V ∧ M1.s.st ≤ M.s.st + 1 + (t - 4 * n) ∧ Onl p b [] w wr)) (fun j _ => 17 - (intOf j).toNat)
  case atStart =>
    refine ⟨4 * n, by omega, by omega, by rw [Int.mul_comm], ?_⟩
    obtain ⟨M1, g1, g2, g3, g4⟩ := HS.out
    exact Lib.hid ⟨M1, g1, g2, by omega, g4⟩
  case round =>
    clear HS
    obtain ⟨t, ht1, ht2, rfl, hr⟩ := hrel
    by_cases hlt : t < 16
    · obtain ⟨M1, g1, g2, g3, g4⟩ := hr.out
      have HF1 := Lib.hid g1
      have HV := Lib.hid g2
      have HO := Lib.hid g4
      have hz0 : M1.V (adT t 0) = 0 := by rw [g2]; exact HZ.out t ht1 hlt
      have hcall := HF1.out.ldA (by omega) (adT_at (t := t) (f := 0) ⟨by omega, hlt⟩ (by decide)) hz0
      clear hr g1 g2 g4 hz0
      go_wp2_with fail
      ((with_reducible refine hcall.mono ?_); rintro e w2 ⟨rfl, F2, o2⟩)
      have HF2 := Lib.hid F2
      have HO2 := Lib.hid o2
      clear F2 o2 hcall
      go_wp2_with fail
      go_roundw
      case rel => exact ⟨t + 1, by omega, by omega, by go_num, Lib.hid ⟨_, HF2.out, HV.out, by show M1.s.st + 1 ≤ _; omega, HO.out.trans (.of_only HO2.out)⟩⟩
      case measure => simp [intOf]; omega
    · have hR := Lib.hid hr.out
      clear hr
      go_wp2_with fail
      go_ret
      obtain ⟨M1, g1, g2, g3, g4⟩ := hR.out
      exact ⟨rfl, M1, g1, g2, by omega, g4⟩
end
end Go.Proofs.YtffkjdmpeeagoaaDoor
