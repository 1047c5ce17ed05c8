/-
  Two entries compared; the law's helper same: whether two lists of entries are one; condition: they lie as they say.
-/
import Derived.Test.YthcclgnadhcndaaRP1
import Derived.BigQuiet
import Derived.Deep.QuietTactic
namespace Go.Proofs.Ythcclgnadhcndaa
open Go.RowKit

set_option maxRecDepth 100000 in
set_option maxHeartbeats 4000000 in
theorem eqRef (s g s' g' : Int) (k k' : Bool) (w : World) : (Op.equalIn 9999 31 (.agg #[.int .i64 s, .int .u32 g, .bool k]) (.agg #[.int .i64 s', .int .u32 g', .bool k'])).run Try.prog w = .ok (s == s' && (g == g' && k == k')) w := by
  have hS : Try.prog.underlying 31 = some (.struct (Try.prog.fieldsOf 31)) := by kernel_rfl
  have hp : Try.prog.stoodInHeld 31 = false := by kernel_rfl
  have ua := Try.underlying3
  have va := Try.isAgg3
  have za := Try.sizeOf3
  have ub := Try.underlying4
  have vb := Try.isAgg4
  have zb := Try.sizeOf4
  have uc := Try.underlying29
  have vc := Try.isAgg29
  have zc := Try.sizeOf29
  have ud := Try.underlying32
  have vd := Try.isAgg32
  have zd := Try.sizeOf32
  rw [show (9999 : Nat) = 9998 + 1 from rfl, run_equalIn_agg w 9998 31 _ _ hS hp]
  simp only [Program.fieldsOf, Try.underlying31]
  clear hS hp
  go_simp
  by_cases h0 : s = s'
  · subst h0
    by_cases h1 : g = g'
    · subst h1
      by_cases h2 : k = k'
      · subst h2
        simp
      · simp [h2]
    · simp [h1]
  · simp [h0]
theorem ent_dec (s g b c d s' g' b' c' d' : Int) (k k' : Bool) : decide ((⟨s, g, k, b, c, d⟩ : EP) = ⟨s', g', k', b', c', d'⟩) = ((s == s' && (g == g' && k == k')) && (b == b' && (c == c' && d == d'))) := by
  rw [Bool.eq_iff_iff]
  simp [and_assoc]
set_option maxRecDepth 100000 in
set_option maxHeartbeats 4000000 in
theorem neq_ent (s g b c d s' g' b' c' d' : Int) (k k' : Bool) (w : World) : (binOp .neq 34 (.agg #[.int .i64 s, .int .u32 g, .bool k, .int .u64 b, .int .u64 c, .int .u64 d]) (.agg #[.int .i64 s', .int .u32 g', .bool k', .int .u64 b', .int .u64 c', .int .u64 d'])).run Try.prog w = .ok (.bool (!decide ((⟨s, g, k, b, c, d⟩ : EP) = ⟨s', g', k', b', c', d'⟩))) w := by
  have hS : Try.prog.underlying 34 = some (.struct (Try.prog.fieldsOf 34)) := by kernel_rfl
  have hp : Try.prog.stoodInHeld 34 = false := by kernel_rfl
  have vr := Try.isAgg31
  have zr := Try.sizeOf31
  have ua := Try.underlying3
  have va := Try.isAgg3
  have za := Try.sizeOf3
  have ub := Try.underlying4
  have vb := Try.isAgg4
  have zb := Try.sizeOf4
  have uc := Try.underlying29
  have vc := Try.isAgg29
  have zc := Try.sizeOf29
  have ud := Try.underlying32
  have vd := Try.isAgg32
  have zd := Try.sizeOf32
  have hR := eqRef s g s' g' k k'
  rw [run_neq_struct, show (10000 : Nat) = 9999 + 1 from rfl, run_equalIn_agg w 9999 34 _ _ hS hp, ent_dec]
  simp only [Program.fieldsOf, Try.underlying34]
  clear hS hp
  go_simp
  by_cases h0 : s = s'
  · subst h0
    by_cases h1 : g = g'
    · subst h1
      by_cases h2 : k = k'
      · subst h2
        by_cases h3 : b = b'
        · subst h3
          by_cases h4 : c = c'
          · subst h4
            by_cases h5 : d = d'
            · subst h5
              simp
            · simp [h5]
          · simp [h4]
        · simp [h3]
      · simp [h2]
    · simp [h1]
  · simp [h0]
set_option maxRecDepth 100000 in
set_option maxHeartbeats 4000000 in
theorem eql_ent (s g b c d s' g' b' c' d' : Int) (k k' : Bool) (w : World) : (binOp .eql 34 (.agg #[.int .i64 s, .int .u32 g, .bool k, .int .u64 b, .int .u64 c, .int .u64 d]) (.agg #[.int .i64 s', .int .u32 g', .bool k', .int .u64 b', .int .u64 c', .int .u64 d'])).run Try.prog w = .ok (.bool (decide ((⟨s, g, k, b, c, d⟩ : EP) = ⟨s', g', k', b', c', d'⟩))) w := by
  have hS : Try.prog.underlying 34 = some (.struct (Try.prog.fieldsOf 34)) := by kernel_rfl
  have hp : Try.prog.stoodInHeld 34 = false := by kernel_rfl
  have vr := Try.isAgg31
  have zr := Try.sizeOf31
  have ua := Try.underlying3
  have va := Try.isAgg3
  have za := Try.sizeOf3
  have ub := Try.underlying4
  have vb := Try.isAgg4
  have zb := Try.sizeOf4
  have uc := Try.underlying29
  have vc := Try.isAgg29
  have zc := Try.sizeOf29
  have ud := Try.underlying32
  have vd := Try.isAgg32
  have zd := Try.sizeOf32
  have hR := eqRef s g s' g' k k'
  rw [run_eql_struct, show (10000 : Nat) = 9999 + 1 from rfl, run_equalIn_agg w 9999 34 _ _ hS hp, ent_dec]
  simp only [Program.fieldsOf, Try.underlying34]
  clear hS hp
  go_simp
  by_cases h0 : s = s'
  · subst h0
    by_cases h1 : g = g'
    · subst h1
      by_cases h2 : k = k'
      · subst h2
        by_cases h3 : b = b'
        · subst h3
          by_cases h4 : c = c'
          · subst h4
            by_cases h5 : d = d'
            · subst h5
              simp
            · simp [h5]
          · simp [h4]
        · simp [h3]
      · simp [h2]
    · simp [h1]
  · simp [h0]
section
variable {w : World} {xs ys : List EP}
theorem same_len {A B : Option Addr} {n m c d : Nat} (h : n ≠ m) : Calls Try.prog 10 #[.slice A n c, .slice B m d] w fun e w' => e = .returned (.bool false) ∧ Below w.heap.size w w' := by
  have h1 : ¬ (n : Int) = (m : Int) := by omega
  go_enter Try.func10, Try.ntmps10
  go_wp2
  go_ret
  exact ⟨rfl, Below.refl _ _⟩
set_option maxRecDepth 100000 in
set_option maxHeartbeats 4000000 in
theorem same_any {A B : Option Addr} {n c d : Nat} (hx : SeeE w (.slice A n c) xs) (hy : SeeE w (.slice B n d) ys) (hn : n < 100000) : Calls Try.prog 10 #[.slice A n c, .slice B n d] w fun e w' => e = .returned (.bool (decide (xs = ys))) ∧ Below w.heap.size w w' := by
  have HNX := Lib.hid hx.len
  have HNY := Lib.hid hy.len
  have HX := Lib.hid hx
  have HY := Lib.hid hy
  clear hx hy
  go_enter Try.func10, Try.ntmps10
  go_wp2_with fail
  go_loopw [5] (fun j wr => ∃ i : Nat, i ≤ n ∧ j = .int .i64 (i : Int) ∧ Hid (Below w.heap.size w wr ∧ xs.take i = ys.take i)) (fun j _ => n - (intOf j).toNat)
  case atStart => exact ⟨0, Nat.zero_le _, rfl, Lib.hid ⟨Below.refl _ _, rfl⟩⟩
  case round =>
    obtain ⟨i, hi, rfl, hr⟩ := hrel
    obtain ⟨hb, ht⟩ := hr.out
    by_cases hlt : i < n
    · have hx := HX.out.below hb
      have hy := HY.out.below hb
      obtain ⟨hc, hcm, g, off, rfl⟩ := hx.addr (by omega)
      obtain ⟨hd, hdm, g', off', rfl⟩ := hy.addr (by omega)
      obtain ⟨x0, x1, x2, x3, x4, x5⟩ := hx.six (j := i) (by have := HNX.out; omega)
      obtain ⟨y0, y1, y2, y3, y4, y5⟩ := hy.six (j := i) (by have := HNY.out; omega)
      have hgx : xs.getD i EP.zero = xs[i]'(by have := HNX.out; omega) := by rw [List.getD_eq_getElem?_getD, List.getElem?_eq_getElem (by have := HNX.out; omega)]; rfl
      have hgy : ys.getD i EP.zero = ys[i]'(by have := HNY.out; omega) := by rw [List.getD_eq_getElem?_getD, List.getElem?_eq_getElem (by have := HNY.out; omega)]; rfl
      have hge : (0 : Int) ≤ (i : Int) := by omega
      have hlt' : (i : Int) < (n : Int) := by omega
      have hzx : xs.take (i + 1) = xs.take i ++ [xs.getD i EP.zero] := by rw [hgx, List.take_succ_eq_append_getElem (by have := HNX.out; omega)]
      have hzy : ys.take (i + 1) = ys.take i ++ [ys.getD i EP.zero] := by rw [hgy, List.take_succ_eq_append_getElem (by have := HNY.out; omega)]
      have HZX := Lib.hid hzx
      have HZY := Lib.hid hzy
      have HB := Lib.hid hb
      have HT := Lib.hid ht
      clear hx hy hzx hzy hgx hgy hb ht hr
      generalize xs.getD i EP.zero = x at *
      generalize ys.getD i EP.zero = y at *
      obtain ⟨xs0, xg, xk, xb, xc, xd⟩ := x
      obtain ⟨ys0, yg, yk, yb, yc, yd⟩ := y
      dsimp only at x0 x1 x2 x3 x4 x5 y0 y1 y2 y3 y4 y5
      have hq := neq_ent xs0 xg xb xc xd ys0 yg yb yc yd xk yk
      by_cases he : (⟨xs0, xg, xk, xb, xc, xd⟩ : EP) = ⟨ys0, yg, yk, yb, yc, yd⟩
      · have hd0 : (!decide ((⟨xs0, xg, xk, xb, xc, xd⟩ : EP) = ⟨ys0, yg, yk, yb, yc, yd⟩)) = false := by simp [he]
        rw [hd0] at hq
        have HE := Lib.hid he
        clear he hd0
        go_wp2_with fail
        go_quiet (fail)
        have hbn := Lib.hid (HB.out.trans ((below_drewN' (Below.refl _ wr) nq).mono HB.out.size))
        clear hq x0 x1 x2 x3 x4 x5 y0 y1 y2 y3 y4 y5
        go_wp2_with fail
        go_roundw
        case rel => exact ⟨i + 1, by omega, by go_num, Lib.hid ⟨hbn.out, by rw [HZX.out, HZY.out, HT.out, HE.out]⟩⟩
        case measure => simp [intOf]; omega
      · have hd0 : (!decide ((⟨xs0, xg, xk, xb, xc, xd⟩ : EP) = ⟨ys0, yg, yk, yb, yc, yd⟩)) = true := by simp [he]
        rw [hd0] at hq
        have HE := Lib.hid he
        clear he hd0
        go_wp2_with fail
        go_quiet (fail)
        have hbn := Lib.hid (HB.out.trans ((below_drewN' (Below.refl _ wr) nq).mono HB.out.size))
        clear hq x0 x1 x2 x3 x4 x5 y0 y1 y2 y3 y4 y5
        go_wp2_with fail
        go_ret
        refine ⟨?_, hbn.out⟩
        have hne : xs ≠ ys := fun k => by
          have h1 := HZX.out
          rw [k, HZY.out, ← k, HT.out] at h1
          have h2 := List.append_cancel_left h1
          simp only [List.cons.injEq, and_true] at h2
          exact HE.out h2.symm
        rw [decide_eq_false hne]
        rfl
    · have hin : i = n := by omega
      have hnl : ¬ (i : Int) < (n : Int) := by omega
      have HB := Lib.hid hb
      have heq : xs = ys := by
        rw [List.take_of_length_le (by have := HNX.out; omega), List.take_of_length_le (by have := HNY.out; omega)] at ht
        exact ht
      have hde := decide_eq_true heq
      clear hr hb ht
      go_wp2_with fail
      go_ret
      exact ⟨rfl, HB.out⟩
end
end Go.Proofs.Ythcclgnadhcndaa
