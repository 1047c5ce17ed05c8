/-
  What the laws of stage 5 ask of the program; the law's helpers and the chapter's examples; conditions: the program's five calls do as the plain side says, where what the program lays lies as laid.
-/
import Derived.Test.YtfholfmlkehfnaaDoorHD3
namespace Go.Proofs.YtfholfmlkehfnaaDoor
open Go.RowKit

/-- All changes that may be done. -/
def allH (x most : Int) : List Int := ([1, 2, 3, 4, 5, 6, 7] : List Int).filter fun c => (doneH x c most).isSome
/-- The program's calls do as the plain side says. -/
structure HPrg (L : World → Prop) : Prop where
  lay : ∀ w, L w → Lay w
  low : ∀ w w', L w → Below w.heap.size w w' → L w'
  may : ∀ (x most : Int) (w : World), L w → U64 x → U32 most → Calls Tryd.prog 7 #[.int .u64 x, .int .u32 most] w fun e w' => e = .returned (.bool (mayH x most)) ∧ Below w.heap.size w w'
  of : ∀ (x to most : Int) (w : World), L w → U64 x → U64 to → U32 most → Calls Tryd.prog 9 #[.int .u64 x, .int .u64 to, .int .u32 most] w fun e w' => e = .returned (.int .u8 (ofH x to most)) ∧ Below w.heap.size w w'
  done : ∀ (x c most : Int) (w : World), L w → U64 x → U8 c → U32 most → Calls Tryd.prog 11 #[.int .u64 x, .int .u8 c, .int .u32 most] w fun e w' => e = .returned (toldW (doneH x c most)) ∧ Below w.heap.size w w'
  all : ∀ (x most : Int) (w : World), L w → U64 x → U32 most → Calls Tryd.prog 13 #[.int .u64 x, .int .u32 most] w fun e w' => ∃ A cap, e = .returned (.slice A (allH x most).length cap) ∧ (allH x most).length ≤ cap ∧ Row w' A ((allH x most).map cV) ∧ Below w.heap.size w w'
  past : ∀ (A : Option Addr) (cap : Nat) (l : List Int) (most : Int) (w : World), L w → Row w A (l.map uV) → (∀ x ∈ l, U64 x) → U32 most → l.length ≤ cap → cap ≤ 9223372036854775807 → l.length ≤ 1000 →
    Calls Tryd.prog 15 #[.slice A l.length cap, .int .u32 most] w fun e w' => e = .returned (.int .i64 (pastH l most : Int)) ∧ Below w.heap.size w w'
theorem drewN_below (w : World) (n : Nat) : Below w.heap.size w (w.drewN n) := below_drewN' (Below.refl _ _) n
set_option maxHeartbeats 1000000 in
theorem of_any (s g : Int) (w : World) (hL : Lay w) (h0 : 0 ≤ s) (h4 : s ≤ 4) (hg : U32 g) : Calls Tryd.prog 17 #[.int .u8 s, .int .u32 g] w fun e w' => e = .returned (.int .u64 (hw s g)) ∧ Below w.heap.size w w' := by
  have HC := header_any s g w hL h0 (by unfold U32 at hg; exact ⟨by omega, by omega⟩)
  rw [headerW_hw h0 h4 hg] at HC
  have HC' := Lib.hid HC
  clear HC hL hg
  go_enter Tryd.func17, Tryd.ntmps17
  go_wp2_with fail
  refine HC'.out.mono ?_
  rintro e w' ⟨rfl, n, rfl⟩
  have HB := Lib.hid (drewN_below w n)
  generalize w.drewN n = w1 at *
  go_wp2_with fail
  go_ret
  exact ⟨rfl, HB.out⟩
set_option maxHeartbeats 1000000 in
theorem same_any (A B : Option Addr) (ca cb : Nat) (l : List Int) (w : World) (ha : Row w A (l.map cV)) (hb : Row w B (l.map cV)) (hl : l.length ≤ 100000) :
    Calls Tryd.prog 26 #[.slice A l.length ca, .slice B l.length cb] w fun e w' => e = .returned (.bool true) ∧ Below w.heap.size w w' := by
  have HA := Lib.hid ha
  have HB := Lib.hid hb
  have H0 := Lib.hid (Below.refl w.heap.size w)
  clear ha hb
  go_enter Tryd.func26, Tryd.ntmps26
  go_wp2_with fail
  go_loopw [5] (fun i wr => ∃ k : Nat, k ≤ l.length ∧ i = .int .i64 (k : Int) ∧ Below w.heap.size w wr) (fun i _ => l.length - (intOf i).toNat)
  case atStart => exact ⟨0, Nat.zero_le _, rfl, H0.out⟩
  case round =>
    obtain ⟨k, hk, rfl, hr⟩ := hrel
    have HR := Lib.hid hr
    clear hr
    by_cases hlt : k < l.length
    · obtain ⟨g, off, rfl, hc⟩ := (HA.out.below (HR.out.mono (Nat.le_refl _))).at_ (k := k) (by rw [List.length_map]; exact hlt)
      obtain ⟨g2, off2, rfl, hc2⟩ := (HB.out.below (HR.out.mono (Nat.le_refl _))).at_ (k := k) (by rw [List.length_map]; exact hlt)
      have y := hc k _ (bytes_at hlt)
      have y2 := hc2 k _ (bytes_at hlt)
      generalize l.getD k 0 = b at y y2
      have hlt' : (k : Int) < (l.length : Int) := by omega
      have hge : (0 : Int) ≤ (k : Int) := by omega
      clear hc hc2
      go_wp2_with fail
      go_quiet (fail)
      go_wp2_with fail
      go_roundw
      case rel => exact ⟨k + 1, by omega, by go_num, below_drewN' HR.out _⟩
      case measure => simp [intOf]; omega
    · have hge : (l.length : Int) ≤ (k : Int) := by omega
      go_wp2_with fail
      go_ret
      exact ⟨rfl, HR.out⟩
theorem u32_small {n : Int} (h0 : 0 ≤ n) (h1 : n ≤ 1000000) : U32 n := ⟨h0, by omega⟩
theorem hw_small {s g : Int} (h0 : 0 ≤ s) (h4 : s ≤ 4) (g0 : 0 ≤ g) (g1 : g ≤ 1000000) : U64 (hw s g) := by
  unfold hw U64
  omega
theorem ex_of1 : ofH (hw 0 2) (hw 1 2) 3 = 1 := by decide
theorem ex_of2 : ofH (hw 2 2) (hw 0 3) 3 = 3 := by decide
theorem ex_of3 : ofH (hw 2 3) (hw 4 3) 3 = 5 := by decide
theorem ex_of4 : ofH (hw 1 2) (hw 0 2) 3 = 0 := by decide
theorem ex_all1 : allH (hw 1 2) 3 = [2, 4] := by decide
theorem ex_all2 : allH (hw 1 3) 3 = [2, 5] := by decide
theorem ex_all3 : allH (hw 4 3) 3 = [] := by decide
end Go.Proofs.YtfholfmlkehfnaaDoor
