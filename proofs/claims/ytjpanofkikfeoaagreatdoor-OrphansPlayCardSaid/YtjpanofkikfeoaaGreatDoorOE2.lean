/-
  Two entries compared; the law's helper same: whether two lists of entries are one; condition: they lie as they say.
  The law's helper spoil: it changes nothing but the row that it is handed; condition: the row is the call's own.
-/
import Derived.Test.YtjpanofkikfeoaaGreatDoorOE1
import Derived.BigQuiet
import Derived.Deep.QuietTactic
namespace Go.Proofs.YtjpanofkikfeoaaGreatDoor
open Go.RowKit Go.Maps

set_option maxRecDepth 100000 in
set_option maxHeartbeats 4000000 in
theorem eqRef (s g s' g' : Int) (k k' : Bool) (w : World) : (Op.equalIn 9999 60 (.agg #[.int .i64 s, .int .u32 g, .bool k]) (.agg #[.int .i64 s', .int .u32 g', .bool k'])).run Tryz.prog w = .ok (s == s' && (g == g' && k == k')) w := by
  have hS : Tryz.prog.underlying 60 = some (.struct (Tryz.prog.fieldsOf 60)) := by kernel_rfl
  have hp : Tryz.prog.stoodInHeld 60 = false := by kernel_rfl
  have ua := Tryz.underlying3
  have va := Tryz.isAgg3
  have za := Tryz.sizeOf3
  have ub := Tryz.underlying4
  have vb := Tryz.isAgg4
  have zb := Tryz.sizeOf4
  have uc := Tryz.underlying58
  have vc := Tryz.isAgg58
  have zc := Tryz.sizeOf58
  have ud := Tryz.underlying35
  have vd := Tryz.isAgg35
  have zd := Tryz.sizeOf35
  rw [show (9999 : Nat) = 9998 + 1 from rfl, run_equalIn_agg w 9998 60 _ _ hS hp]
  simp only [Program.fieldsOf, Tryz.underlying60]
  clear hS hp
  go_simp
  by_cases h0 : s = s'
  · subst h0
    by_cases h1 : g = g'
    · subst h1
      by_cases h2 : k = k'
      · subst h2
        simp
      · simp [h2]
    · simp [h1]
  · simp [h0]
theorem ent_dec (s g b c d s' g' b' c' d' : Int) (k k' : Bool) : decide ((⟨s, g, k, b, c, d⟩ : EP) = ⟨s', g', k', b', c', d'⟩) = ((s == s' && (g == g' && k == k')) && (b == b' && (c == c' && d == d'))) := by
  rw [Bool.eq_iff_iff]
  simp [and_assoc]
set_option maxRecDepth 100000 in
set_option maxHeartbeats 4000000 in
theorem neq_ent (s g b c d s' g' b' c' d' : Int) (k k' : Bool) (w : World) : (binOp .neq 62 (.agg #[.int .i64 s, .int .u32 g, .bool k, .int .u64 b, .int .u64 c, .int .u64 d]) (.agg #[.int .i64 s', .int .u32 g', .bool k', .int .u64 b', .int .u64 c', .int .u64 d'])).run Tryz.prog w = .ok (.bool (!decide ((⟨s, g, k, b, c, d⟩ : EP) = ⟨s', g', k', b', c', d'⟩))) w := by
  have hS : Tryz.prog.underlying 62 = some (.struct (Tryz.prog.fieldsOf 62)) := by kernel_rfl
  have hp : Tryz.prog.stoodInHeld 62 = false := by kernel_rfl
  have vr := Tryz.isAgg60
  have zr := Tryz.sizeOf60
  have ua := Tryz.underlying3
  have va := Tryz.isAgg3
  have za := Tryz.sizeOf3
  have ub := Tryz.underlying4
  have vb := Tryz.isAgg4
  have zb := Tryz.sizeOf4
  have uc := Tryz.underlying58
  have vc := Tryz.isAgg58
  have zc := Tryz.sizeOf58
  have ud := Tryz.underlying35
  have vd := Tryz.isAgg35
  have zd := Tryz.sizeOf35
  have hR := eqRef s g s' g' k k'
  rw [run_neq_struct, show (10000 : Nat) = 9999 + 1 from rfl, run_equalIn_agg w 9999 62 _ _ hS hp, ent_dec]
  simp only [Program.fieldsOf, Tryz.underlying62]
  clear hS hp
  go_simp
  by_cases h0 : s = s'
  · subst h0
    by_cases h1 : g = g'
    · subst h1
      by_cases h2 : k = k'
      · subst h2
        by_cases h3 : b = b'
        · subst h3
          by_cases h4 : c = c'
          · subst h4
            by_cases h5 : d = d'
            · subst h5
              simp
            · simp [h5]
          · simp [h4]
        · simp [h3]
      · simp [h2]
    · simp [h1]
  · simp [h0]
set_option maxRecDepth 100000 in
set_option maxHeartbeats 4000000 in
theorem eql_ent (s g b c d s' g' b' c' d' : Int) (k k' : Bool) (w : World) : (binOp .eql 62 (.agg #[.int .i64 s, .int .u32 g, .bool k, .int .u64 b, .int .u64 c, .int .u64 d]) (.agg #[.int .i64 s', .int .u32 g', .bool k', .int .u64 b', .int .u64 c', .int .u64 d'])).run Tryz.prog w = .ok (.bool (decide ((⟨s, g, k, b, c, d⟩ : EP) = ⟨s', g', k', b', c', d'⟩))) w := by
  have hS : Tryz.prog.underlying 62 = some (.struct (Tryz.prog.fieldsOf 62)) := by kernel_rfl
  have hp : Tryz.prog.stoodInHeld 62 = false := by kernel_rfl
  have vr := Tryz.isAgg60
  have zr := Tryz.sizeOf60
  have ua := Tryz.underlying3
  have va := Tryz.isAgg3
  have za := Tryz.sizeOf3
  have ub := Tryz.underlying4
  have vb := Tryz.isAgg4
  have zb := Tryz.sizeOf4
  have uc := Tryz.underlying58
  have vc := Tryz.isAgg58
  have zc := Tryz.sizeOf58
  have ud := Tryz.underlying35
  have vd := Tryz.isAgg35
  have zd := Tryz.sizeOf35
  have hR := eqRef s g s' g' k k'
  rw [run_eql_struct, show (10000 : Nat) = 9999 + 1 from rfl, run_equalIn_agg w 9999 62 _ _ hS hp, ent_dec]
  simp only [Program.fieldsOf, Tryz.underlying62]
  clear hS hp
  go_simp
  by_cases h0 : s = s'
  · subst h0
    by_cases h1 : g = g'
    · subst h1
      by_cases h2 : k = k'
      · subst h2
        by_cases h3 : b = b'
        · subst h3
          by_cases h4 : c = c'
          · subst h4
            by_cases h5 : d = d'
            · subst h5
              simp
            · simp [h5]
          · simp [h4]
        · simp [h3]
      · simp [h2]
    · simp [h1]
  · simp [h0]
section
variable {w : World} {xs ys : List EP}
theorem same_len {A B : Option Addr} {n m c d : Nat} (h : n ≠ m) : Calls Tryz.prog 8 #[.slice A n c, .slice B m d] w fun e w' => e = .returned (.bool false) ∧ Below w.heap.size w w' := by
  have h1 : ¬ (n : Int) = (m : Int) := by omega
  go_enter Tryz.func8, Tryz.ntmps8
  go_wp2
  go_ret
  exact ⟨rfl, Below.refl _ _⟩
set_option maxRecDepth 100000 in
set_option maxHeartbeats 4000000 in
theorem same_any {A B : Option Addr} {n c d : Nat} (hx : SeeE w (.slice A n c) xs) (hy : SeeE w (.slice B n d) ys) (hn : n < 100000) : Calls Tryz.prog 8 #[.slice A n c, .slice B n d] w fun e w' => e = .returned (.bool (decide (xs = ys))) ∧ Below w.heap.size w w' := by
  have HNX := Lib.hid hx.len
  have HNY := Lib.hid hy.len
  have HX := Lib.hid hx
  have HY := Lib.hid hy
  clear hx hy
  go_enter Tryz.func8, Tryz.ntmps8
  go_wp2_with fail
  go_loopw [5] (fun j wr => ∃ i : Nat, i ≤ n ∧ j = .int .i64 (i : Int) ∧ Hid (Below w.heap.size w wr ∧ xs.take i = ys.take i)) (fun j _ => n - (intOf j).toNat)
  case atStart => exact ⟨0, Nat.zero_le _, rfl, Lib.hid ⟨Below.refl _ _, rfl⟩⟩
  case round =>
    obtain ⟨i, hi, rfl, hr⟩ := hrel
    obtain ⟨hb, ht⟩ := hr.out
    by_cases hlt : i < n
    · have hx := HX.out.below hb
      have hy := HY.out.below hb
      obtain ⟨hc, hcm, g, off, rfl⟩ := hx.addr (by omega)
      obtain ⟨hd, hdm, g', off', rfl⟩ := hy.addr (by omega)
      obtain ⟨x0, x1, x2, x3, x4, x5⟩ := hx.six (j := i) (by have := HNX.out; omega)
      obtain ⟨y0, y1, y2, y3, y4, y5⟩ := hy.six (j := i) (by have := HNY.out; omega)
      have hgx : xs.getD i EP.zero = xs[i]'(by have := HNX.out; omega) := by rw [List.getD_eq_getElem?_getD, List.getElem?_eq_getElem (by have := HNX.out; omega)]; rfl
      have hgy : ys.getD i EP.zero = ys[i]'(by have := HNY.out; omega) := by rw [List.getD_eq_getElem?_getD, List.getElem?_eq_getElem (by have := HNY.out; omega)]; rfl
      have hge : (0 : Int) ≤ (i : Int) := by omega
      have hlt' : (i : Int) < (n : Int) := by omega
      have hzx : xs.take (i + 1) = xs.take i ++ [xs.getD i EP.zero] := by rw [hgx, List.take_succ_eq_append_getElem (by have := HNX.out; omega)]
      have hzy : ys.take (i + 1) = ys.take i ++ [ys.getD i EP.zero] := by rw [hgy, List.take_succ_eq_append_getElem (by have := HNY.out; omega)]
      have HZX := Lib.hid hzx
      have HZY := Lib.hid hzy
      have HB := Lib.hid hb
      have HT := Lib.hid ht
      clear hx hy hzx hzy hgx hgy hb ht hr
      generalize xs.getD i EP.zero = x at *
      generalize ys.getD i EP.zero = y at *
      obtain ⟨xs0, xg, xk, xb, xc, xd⟩ := x
      obtain ⟨ys0, yg, yk, yb, yc, yd⟩ := y
      dsimp only at x0 x1 x2 x3 x4 x5 y0 y1 y2 y3 y4 y5
      have hq := neq_ent xs0 xg xb xc xd ys0 yg yb yc yd xk yk
      by_cases he : (⟨xs0, xg, xk, xb, xc, xd⟩ : EP) = ⟨ys0, yg, yk, yb, yc, yd⟩
      · have hd0 : (!decide ((⟨xs0, xg, xk, xb, xc, xd⟩ : EP) = ⟨ys0, yg, yk, yb, yc, yd⟩)) = false := by simp [he]
        rw [hd0] at hq
        have HE := Lib.hid he
        clear he hd0
        go_wp2_with fail
        go_quiet (fail)
        have hbn := Lib.hid (HB.out.trans ((below_drewN' (Below.refl _ wr) nq).mono HB.out.size))
        clear hq x0 x1 x2 x3 x4 x5 y0 y1 y2 y3 y4 y5
        go_wp2_with fail
        go_roundw
        case rel => exact ⟨i + 1, by omega, by go_num, Lib.hid ⟨hbn.out, by rw [HZX.out, HZY.out, HT.out, HE.out]⟩⟩
        case measure => simp [intOf]; omega
      · have hd0 : (!decide ((⟨xs0, xg, xk, xb, xc, xd⟩ : EP) = ⟨ys0, yg, yk, yb, yc, yd⟩)) = true := by simp [he]
        rw [hd0] at hq
        have HE := Lib.hid he
        clear he hd0
        go_wp2_with fail
        go_quiet (fail)
        have hbn := Lib.hid (HB.out.trans ((below_drewN' (Below.refl _ wr) nq).mono HB.out.size))
        clear hq x0 x1 x2 x3 x4 x5 y0 y1 y2 y3 y4 y5
        go_wp2_with fail
        go_ret
        refine ⟨?_, hbn.out⟩
        have hne : xs ≠ ys := fun k => by
          have h1 := HZX.out
          rw [k, HZY.out, ← k, HT.out] at h1
          have h2 := List.append_cancel_left h1
          simp only [List.cons.injEq, and_true] at h2
          exact HE.out h2.symm
        rw [decide_eq_false hne]
        rfl
    · have hin : i = n := by omega
      have hnl : ¬ (i : Int) < (n : Int) := by omega
      have HB := Lib.hid hb
      have heq : xs = ys := by
        rw [List.take_of_length_le (by have := HNX.out; omega), List.take_of_length_le (by have := HNY.out; omega)] at ht
        exact ht
      have hde := decide_eq_true heq
      clear hr hb ht
      go_wp2_with fail
      go_ret
      exact ⟨rfl, HB.out⟩
end
end Go.Proofs.YtjpanofkikfeoaaGreatDoor
namespace Go.Proofs.YtjpanofkikfeoaaGreatDoor
open Go.RowKit Go.Maps

section
variable {w : World} {B : Nat} {xs : List EP}
theorem spoil_none : Calls Tryz.prog 9 #[.slice none 0 0] w fun e w' => e = .returned (.tuple #[]) ∧ w' = w := by
  go_enter Tryz.func9, Tryz.ntmps9
  go_wp2_with fail
  go_loopw [2] (fun j wr => j = .int .i64 0 ∧ wr = w) (fun _ _ => 0)
  case atStart => exact ⟨rfl, rfl⟩
  case round =>
    obtain ⟨rfl, rfl⟩ := hrel
    go_wp2_with fail
    ((try simp only [Exit.inBlock, Exit.then]); first | go_end0 | refine bodyPost_ret (results_none rfl _ _ _) rfl ?_)
    exact ⟨rfl, rfl⟩
set_option maxRecDepth 100000 in
set_option maxHeartbeats 4000000 in
theorem spoil_some {g n k : Nat} {cur : Array Value} (hg : w.heap[g]? = some (.cells cur 62 (0, 0))) (hs : cur.size = k * 6) (hB : B ≤ g) (_hn : n ≤ k) (hk : k ≤ 9223372036854775807) : Calls Tryz.prog 9 #[.slice (some ⟨g, 0, none⟩) n k] w fun e w' => e = .returned (.tuple #[]) ∧ Below B w w' := by
  have HG := Lib.hid (show Below B w w ∧ ∃ cur : Array Value, w.heap[g]? = some (.cells cur 62 (0, 0)) ∧ cur.size = k * 6 from ⟨Below.refl _ _, cur, hg, hs⟩)
  have hk0 : (0 : Int) ≤ (k : Int) := by omega
  have hk1 : (k : Int) ≤ 9223372036854775807 := by omega
  clear hg hs
  go_enter Tryz.func9, Tryz.ntmps9
  go_wp2_with fail
  go_loopw [2] (fun j wr => ∃ i : Nat, i ≤ k ∧ j = .int .i64 (i : Int) ∧ Hid (Below B w wr ∧ ∃ cur : Array Value, wr.heap[g]? = some (.cells cur 62 (0, 0)) ∧ cur.size = k * 6)) (fun j _ => k - (intOf j).toNat)
  case atStart => exact ⟨0, Nat.zero_le _, rfl, HG⟩
  case round =>
    clear HG
    obtain ⟨i, hi, rfl, hr⟩ := hrel
    obtain ⟨hb, cu, hg, hs⟩ := hr.out
    have hge : (0 : Int) ≤ (i : Int) := by omega
    by_cases hlt : i < k
    · have hlt' : (i : Int) < (k : Int) := by omega
      have hc : ∀ j, j < 6 → ∃ v, wr.cell? ⟨g, i * 6 + j, none⟩ = some v := fun j hj => ⟨cu[i * 6 + j]'(by omega), by rw [cell_of_row wr g (i * 6 + j) cu _ (0, 0) hg]; exact Array.getElem?_eq_getElem _⟩
      have hz : ∀ j, wr.frozen? ⟨g, j, none⟩ = false := fun j => by simp [World.frozen?, hg]
      obtain ⟨v0, x0⟩ := hc 0 (by decide)
      obtain ⟨v1, x1⟩ := hc 1 (by decide)
      obtain ⟨v2, x2⟩ := hc 2 (by decide)
      obtain ⟨v3, x3⟩ := hc 3 (by decide)
      obtain ⟨v4, x4⟩ := hc 4 (by decide)
      obtain ⟨v5, x5⟩ := hc 5 (by decide)
      rw [Nat.add_zero] at x0
      have z0 := hz (i * 6)
      have z1 := hz (i * 6 + 1)
      have z2 := hz (i * 6 + 2)
      have z3 := hz (i * 6 + 3)
      have z4 := hz (i * 6 + 4)
      have z5 := hz (i * 6 + 5)
      have hset : ∀ (X : World) (j : Nat) (v : Value), (Below B w X ∧ ∃ cur : Array Value, X.heap[g]? = some (.cells cur 62 (0, 0)) ∧ cur.size = k * 6) → (Below B w (X.setCell ⟨g, j, none⟩ v) ∧ ∃ cur : Array Value, (X.setCell ⟨g, j, none⟩ v).heap[g]? = some (.cells cur 62 (0, 0)) ∧ cur.size = k * 6) := fun X j v ⟨h1, cur, h2, h3⟩ => ⟨h1.setCell (p := ⟨g, j, none⟩) hB v, _, setCell_blk h2 j v, by simpa using h3⟩
      have HN := Lib.hid (hset _ (i * 6 + 5) (.int .u64 0) (hset _ (i * 6 + 4) (.int .u64 0) (hset _ (i * 6 + 3) (.int .u64 7777777) (hset _ (i * 6 + 2) (.bool false) (hset _ (i * 6 + 1) (.int .u32 0) (hset _ (i * 6) (.int .i64 0) hr.out))))))
      clear hc hz hset hr hb hg hs
      go_wp2_with fail
      go_roundw
      case rel => exact ⟨i + 1, by omega, by go_num, HN⟩
      case measure => simp [intOf]; omega
    · have hnl : ¬ (i : Int) < (k : Int) := by omega
      have HB := Lib.hid hb
      clear hr hb hg hs
      go_wp2_with fail
      ((try simp only [Exit.inBlock, Exit.then]); first | go_end0 | refine bodyPost_ret (results_none rfl _ _ _) rfl ?_)
      exact ⟨rfl, HB.out⟩
theorem spoil_any {v : Value} (h : OwnE w B v xs) : Calls Tryz.prog 9 #[v] w fun e w' => e = .returned (.tuple #[]) ∧ Below B w w' := by
  obtain ⟨_, h⟩ := h
  rcases h with ⟨rfl, h0⟩ | ⟨g, cap, cur, rfl, hb, hg, hc, hm, hs, ht⟩
  · refine spoil_none.mono ?_
    rintro e w' ⟨he, rfl⟩
    exact ⟨he, Below.refl _ _⟩
  · exact spoil_some hg hs hb hc (by unfold maxLen at hm; exact hm)
end
end Go.Proofs.YtjpanofkikfeoaaGreatDoor
