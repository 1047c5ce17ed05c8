/-
  The document's words of layer 2, told in order; The library's sort, laid at this program; The program's order of addresses; The program's order of addresses; The keys of the program's map of words, collected; conditions as each theorem says.
-/
import Derived.Test.YtmjcbjcnmgleaaaGreatDoorXP27
import Derived.Shelf.SlGeneric
import Derived.Shelf.SlLaysF0
import Derived.Test.YtmjcbjcnmgleaaaGreatDoorProg
import Derived.Test.YtmjcbjcnmgleaaaGreatDoorXP02
import Derived.StillTailTactics
import Derived.Shelf.Abstract
import Derived.Shelf.GgSortFunc.InsertionK
import Derived.Outline
import Derived.Test.YtmjcbjcnmgleaaaGreatDoorXP06
import Derived.RangeFuncBox
import Derived.Maps.AppendAt
namespace Go.Proofs.YtmjcbjcnmgleaaaGreatDoor
open Go.RowKit
def lessW (x y : Wd) : Bool := lessB x.k x.a x.f y.k y.a y.f
def insW : List Wd → Wd → List Wd
  | [], y => [y]
  | x :: r, y => if lessW x y = true then x :: insW r y else y :: x :: r
def stepW (acc : List Wd) (y : Wd) : List Wd := if y.v = 0 then acc else insW acc y
def wordsF (l : List Wd) : List Wd := l.foldl stepW []
theorem insW_len (sl : List Wd) (y : Wd) : (insW sl y).length = sl.length + 1 := by
  induction sl with
  | nil => rfl
  | cons x r ih => unfold insW; split <;> simp [ih]
theorem insW_at (y : Wd) : ∀ (sl : List Wd) (k : Nat), k ≤ sl.length → (∀ c, c < k → lessW (sl.getD c wd0) y = true) → (k = sl.length ∨ lessW (sl.getD k wd0) y = false) → insW sl y = sl.take k ++ [y] ++ sl.drop k := by
  intro sl
  induction sl with
  | nil => intro k hk _ _; simp at hk; subst hk; rfl
  | cons x r ih =>
    intro k hk hb ht
    cases k with
    | zero =>
      rcases ht with ht | ht
      · simp at ht
      · simp at ht
        simp [insW, ht]
    | succ k =>
      have h0 := hb 0 (by omega)
      simp at h0
      have h1 := ih k (by simpa using hk) (fun c hc => by simpa using hb (c + 1) (by omega)) (by
        rcases ht with ht | ht
        · exact .inl (by simpa using ht)
        · exact .inr (by simpa using ht))
      unfold insW
      rw [if_pos h0, h1]
      simp
theorem wordsF_succ (l : List Wd) (i : Nat) (hi : i < l.length) : wordsF (l.take (i + 1)) = stepW (wordsF (l.take i)) (l.getD i wd0) := by
  unfold wordsF
  rw [List.take_add_one, List.getElem?_eq_getElem hi, List.foldl_append]
  simp [List.getD_eq_getElem?_getD, List.getElem?_eq_getElem hi]
theorem wordsF_len (l : List Wd) : ∀ acc : List Wd, (l.foldl stepW acc).length ≤ acc.length + l.length := by
  induction l with
  | nil => intro acc; simp
  | cons y r ih =>
    intro acc
    refine Nat.le_trans (ih _) ?_
    have : (stepW acc y).length ≤ acc.length + 1 := by unfold stepW; split <;> simp [insW_len]
    simp only [List.length_cons]
    omega
theorem wordsF_le (l : List Wd) (i : Nat) : (wordsF (l.take i)).length ≤ i := by
  have := wordsF_len (l.take i) []
  unfold wordsF
  simp at this ⊢
  omega
theorem addr_plus (g o j : Nat) : (⟨g, o, none⟩ : Addr).add j = ⟨g, o + j, none⟩ := by unfold Addr.add; split <;> simp_all
theorem flat_app (x y : List Wd) : flat (x ++ y) = flat x ++ flat y := by simp [flat]
theorem flat_split (sl : List Wd) (k : Nat) : flat sl = flat (sl.take k) ++ flat (sl.drop k) := by
  rw [← flat_app, List.take_append_drop]
theorem flat_one (sl : List Wd) : ∀ u ∈ flat sl, u.oneCell' = true := by
  intro u hu
  simp [flat, Wd.cells] at hu
  obtain ⟨x, _, h⟩ := hu
  rcases h with rfl | rfl | rfl | rfl <;> rfl
theorem cells_one (y : Wd) : ∀ u ∈ y.cells, u.oneCell' = true := by
  intro u hu
  simp [Wd.cells] at hu
  rcases hu with rfl | rfl | rfl | rfl <;> rfl
section
variable {W : World} {B0 g2 c2 k : Nat} {sl : List Wd}
theorem news_take (h : W.ownsRow B0 118 4 (.slice (some ⟨g2, 0, none⟩) sl.length c2) sl.length (flat sl)) (hk : k ≤ sl.length) : ∀ j u, (flat (sl.take k))[j]? = some u → W.cell? ((⟨g2, 0, none⟩ : Addr).add j) = some u := by
  intro j u hj
  have hlt := (List.getElem?_eq_some_iff.1 hj).1
  have hl := flat_len (sl.take k)
  rw [List.length_take, Nat.min_eq_left hk] at hl
  rw [addr_plus, Nat.zero_add, h.cellAt j (by omega), flat_split sl k, List.getElem?_append_left hlt, hj]
theorem news_drop (h : W.ownsRow B0 118 4 (.slice (some ⟨g2, 0, none⟩) sl.length c2) sl.length (flat sl)) (hk : k ≤ sl.length) : ∀ j u, (flat (sl.drop k))[j]? = some u → W.cell? ((⟨g2, k * 4, none⟩ : Addr).add j) = some u := by
  intro j u hj
  have hlt := (List.getElem?_eq_some_iff.1 hj).1
  have hl := flat_len (sl.drop k)
  have hl1 := flat_len (sl.take k)
  rw [List.length_take, Nat.min_eq_left hk] at hl1
  rw [List.length_drop] at hl
  rw [addr_plus, h.cellAt (k * 4 + j) (by omega), flat_split sl k, List.getElem?_append_right (by omega), hl1, Nat.add_sub_cancel_left, hj]
theorem row_below {w0 : World} {B : Nat} {v : Value} {n : Nat} {xs : List Value} (h : w0.ownsRow B 118 4 v n xs) (hb : Below w0.heap.size w0 W) : W.ownsRow B 118 4 v n xs := by
  refine ⟨h.1, ?_⟩
  rcases h.2 with hn | ⟨g, cap, cur, hv, hB, hg, r⟩
  · exact .inl hn
  · refine .inr ⟨g, cap, cur, hv, hB, ?_, r⟩
    exact (hb.block g (Array.getElem?_eq_some_iff.1 hg).1).trans hg
theorem row_base {B : Nat} {v : Value} {n : Nat} {xs : List Value} (h : W.ownsRow B 118 4 v n xs) : ∀ q, v.ownBlock = some q → B ≤ q := by
  intro q hq
  rcases h.2 with ⟨hv, _⟩ | ⟨g, cap, cur, hv, hB, hg, r⟩
  · subst hv; simp [Value.ownBlock] at hq
  · subst hv
    simp only [Value.ownBlock, Option.some.injEq] at hq
    omega
theorem row_mono {B B' : Nat} {v : Value} {n : Nat} {xs : List Value} (h : W.ownsRow B 118 4 v n xs) (hb : B' ≤ B) : W.ownsRow B' 118 4 v n xs := by
  refine ⟨h.1, ?_⟩
  rcases h.2 with hn | ⟨g, cap, cur, hv, hB, hg, r⟩
  · exact .inl hn
  · exact .inr ⟨g, cap, cur, hv, Nat.le_trans hb hB, hg, r⟩
variable {ops : Array Oper} {o : Oper} {a : Act} {K : Act → World → Prop} {Q : Exit → Act → World → Prop} {E : Prop} {w0 : World}
theorem appA (hgd : o.guard = none) (s x : Operand) (ho : o.op = .call { callee := .builtin .append, args := #[s, x], argTypes := #[98, 98] })
    (hW : Below w0.heap.size w0 W) (h : w0.ownsRow B0 118 4 (.slice (some ⟨g2, 0, none⟩) sl.length c2) sl.length (flat sl)) (hk : k ≤ sl.length) (hn : sl.length ≤ 5000) (c : Nat)
    (hs : a.eval s = .slice none 0 0) (hx : a.eval x = .slice (some ⟨g2, 0, none⟩) k c)
    (hK : ∀ v1 w1, w1.ownsRow w0.heap.size 118 4 v1 k (flat (sl.take k)) → Below W.heap.size W w1 → Below w0.heap.size w0 w1 → K (a.put o.dst v1) w1) :
    if Region.wanted o (yielded ops a.tmps) = true then Oper.wp Tryz.prog o a W K Q else E := by
  obtain ⟨i0, q1, q2, q3, q4⟩ := info_parts Tryz_info64
  have hl := flat_len (sl.take k)
  rw [List.length_take, Nat.min_eq_left hk] at hl
  refine step_append_at W hgd s x 98 ho w0.heap.size 118 i0 (.agg #[.int .u8 0, .int .i64 0, .int .i64 0, .int .u64 0]) 4 32 Tryz.underlying98 q1 q2 q3 q4 rfl (by decide) (.slice none 0 0) 0 [] hs (World.ownsRow_nil _ _ _ _) ⟨g2, 0, none⟩ k c (flat (sl.take k)) hx hl
    (news_take (row_below h hW) hk) (flat_one _) (by unfold maxLen; omega) (by omega) hW.size ?_
  intro v1 w1 h1 h2 _
  rw [Nat.zero_add, List.nil_append] at h1
  have hb : Below W.heap.size W w1 := (Below.refl _ W).grown h2 (Nat.le_refl _) (fun q hq => by simp [Value.ownBlock] at hq)
  exact hK v1 w1 h1 hb (hW.trans (hb.mono hW.size))
theorem appB {v1 : Value} {y : Wd} {q : Nat} (hgd : o.guard = none) (s x : Operand) (ho : o.op = .call { callee := .builtin .append, args := #[s, x], argTypes := #[98, 98] })
    (hW : Below w0.heap.size w0 W) (xs : List Wd) (hn : xs.length ≤ 5000) (h : W.ownsRow w0.heap.size 118 4 v1 xs.length (flat xs)) (hq : W.heap[q]? = some (.cells y.cells.toArray 118 (0, 0))) (c : Nat)
    (hs : a.eval s = v1) (hx : a.eval x = .slice (some ⟨q, 0, none⟩) 1 c)
    (hK : ∀ v2 w2, w2.ownsRow w0.heap.size 118 4 v2 (xs.length + 1) (flat (xs ++ [y])) → Below w0.heap.size w0 w2 → K (a.put o.dst v2) w2) :
    if Region.wanted o (yielded ops a.tmps) = true then Oper.wp Tryz.prog o a W K Q else E := by
  obtain ⟨i0, q1, q2, q3, q4⟩ := info_parts Tryz_info64
  refine step_append_at W hgd s x 98 ho w0.heap.size 118 i0 (.agg #[.int .u8 0, .int .i64 0, .int .i64 0, .int .u64 0]) 4 32 Tryz.underlying98 q1 q2 q3 q4 rfl (by decide) v1 xs.length (flat xs) hs h ⟨q, 0, none⟩ 1 c y.cells hx rfl
    (by simpa using World.news_of_block hq) (cells_one y) (by unfold maxLen; omega) (by omega) hW.size ?_
  intro v2 w2 h1 h2 _
  exact hK v2 w2 (by rw [flat_push]; exact h1) (hW.grown h2 hW.size (fun k hk => row_base h k hk))
theorem appC {v2 : Value} (hgd : o.guard = none) (s x : Operand) (ho : o.op = .call { callee := .builtin .append, args := #[s, x], argTypes := #[98, 98] })
    (hW : Below w0.heap.size w0 W) (h : w0.ownsRow B0 118 4 (.slice (some ⟨g2, 0, none⟩) sl.length c2) sl.length (flat sl)) (hk : k ≤ sl.length) (hn : sl.length ≤ 5000) (xs : List Wd) (hxs : xs.length ≤ 5001) (hv : W.ownsRow w0.heap.size 118 4 v2 xs.length (flat xs)) (c : Nat)
    (hs : a.eval s = v2) (hc2 : sl.length ≤ c2) (hx : a.eval x = .slice (if c2 = k then some ⟨g2, 0, none⟩ else some ⟨g2, k * 4, none⟩) (sl.length - k) c)
    (hK : ∀ v3 w3, w3.ownsRow w0.heap.size 118 4 v3 (xs ++ sl.drop k).length (flat (xs ++ sl.drop k)) → Below w0.heap.size w0 w3 → K (a.put o.dst v3) w3) :
    if Region.wanted o (yielded ops a.tmps) = true then Oper.wp Tryz.prog o a W K Q else E := by
  obtain ⟨i0, q1, q2, q3, q4⟩ := info_parts Tryz_info64
  have hl := flat_len (sl.drop k)
  rw [List.length_drop] at hl
  obtain ⟨ad, hx', hnw⟩ : ∃ ad : Addr, a.eval x = .slice (some ad) (sl.length - k) c ∧ ∀ j u, (flat (sl.drop k))[j]? = some u → W.cell? (ad.add j) = some u := by
    by_cases hc : c2 = k
    · rw [if_pos hc] at hx
      refine ⟨_, hx, fun j u hj => ?_⟩
      have := (List.getElem?_eq_some_iff.1 hj).1
      omega
    · rw [if_neg hc] at hx
      exact ⟨_, hx, news_drop (row_below h hW) hk⟩
  refine step_append_at W hgd s x 98 ho w0.heap.size 118 i0 (.agg #[.int .u8 0, .int .i64 0, .int .i64 0, .int .u64 0]) 4 32 Tryz.underlying98 q1 q2 q3 q4 rfl (by decide) v2 xs.length (flat xs) hs hv ad (sl.length - k) c (flat (sl.drop k)) hx' hl
    hnw (flat_one _) (by unfold maxLen; omega) (by omega) hW.size ?_
  intro v3 w3 h1 h2 _
  refine hK v3 w3 ?_ (hW.grown h2 hW.size (fun k hk => row_base hv k hk))
  rw [List.length_append, List.length_drop, show flat (xs ++ sl.drop k) = flat xs ++ flat (sl.drop k) by simp [flat]]
  exact h1
end
end Go.Proofs.YtmjcbjcnmgleaaaGreatDoor
namespace Go.Proofs.YtmjcbjcnmgleaaaGreatDoor
open Go.Shelf
def sortA_ren : Go.Shelf.Ren := ⟨fun | 6 => 137 | 15 => 150 | 14 => 149 | 28 => 163 | 29 => 164 | 20 => 155 | 21 => 156 | 22 => 157 | 23 => 158 | 24 => 159 | 25 => 160 | 26 => 161 | 27 => 162 | 46 => 167 | 47 => 168 | 48 => 169 | 49 => 170 | 50 => 171 | 57 => 172 | n => n, fun | 22 => 188 | 24 => 33 | 25 => 193 | 3 => 3 | 39 => 49 | 0 => 0 | 53 => 67 | 55 => 34 | 4 => 4 | 46 => 258 | 45 => 257 | 50 => 185 | 5 => 5 | 9 => 9 | 66 => 265 | 70 => 269 | 76 => 271 | 77 => 124 | n => n, fun | n => n⟩
theorem sortA : Go.Proofs.SlLaysF0.n6 Tryz.prog sortA_ren := {
  mixed := by kernel_rfl
  f6 := ⟨Tryz.f137.name, by decide, Tryz.func137.trans (congrArg some (by kernel_rfl))⟩
  f14 := ⟨Tryz.f149.name, by decide, Tryz.func149.trans (congrArg some (by kernel_rfl))⟩
  f15 := Tryz.func150.trans (congrArg some (by kernel_rfl))
  f20 := ⟨Tryz.f155.name, by decide, Tryz.func155.trans (congrArg some (by kernel_rfl))⟩
  f21 := ⟨Tryz.f156.name, by decide, Tryz.func156.trans (congrArg some (by kernel_rfl))⟩
  f22 := ⟨Tryz.f157.name, by decide, Tryz.func157.trans (congrArg some (by kernel_rfl))⟩
  f23 := ⟨Tryz.f158.name, by decide, Tryz.func158.trans (congrArg some (by kernel_rfl))⟩
  f24 := ⟨Tryz.f159.name, by decide, Tryz.func159.trans (congrArg some (by kernel_rfl))⟩
  f25 := ⟨Tryz.f160.name, by decide, Tryz.func160.trans (congrArg some (by kernel_rfl))⟩
  f26 := ⟨Tryz.f161.name, by decide, Tryz.func161.trans (congrArg some (by kernel_rfl))⟩
  f27 := ⟨Tryz.f162.name, by decide, Tryz.func162.trans (congrArg some (by kernel_rfl))⟩
  f28 := Tryz.func163.trans (congrArg some (by kernel_rfl))
  f29 := Tryz.func164.trans (congrArg some (by kernel_rfl))
  f46 := ⟨Tryz.f167.name, by decide, Tryz.func167.trans (congrArg some (by kernel_rfl))⟩
  f47 := Tryz.func168.trans (congrArg some (by kernel_rfl))
  f48 := Tryz.func169.trans (congrArg some (by kernel_rfl))
  f49 := ⟨Tryz.f170.name, by decide, Tryz.func170.trans (congrArg some (by kernel_rfl))⟩
  f50 := ⟨Tryz.f171.name, by decide, Tryz.func171.trans (congrArg some (by kernel_rfl))⟩
  f57 := ⟨Tryz.f172.name, by decide, Tryz.func172.trans (congrArg some (by kernel_rfl))⟩
  t0 := Tryz.underlying0
  a0 := Tryz.isAgg0
  z0 := Tryz.sizeOf0
  v0 := Tryz.zeroValue0
  t3 := Tryz.underlying3
  a3 := Tryz.isAgg3
  z3 := Tryz.sizeOf3
  v3 := Tryz.zeroValue3
  t4 := Tryz.underlying4
  a4 := Tryz.isAgg4
  z4 := Tryz.sizeOf4
  v4 := Tryz.zeroValue4
  t5 := Tryz.underlying5
  a5 := Tryz.isAgg5
  z5 := Tryz.sizeOf5
  v5 := Tryz.zeroValue5
  t9 := Tryz.underlying9
  a9 := Tryz.isAgg9
  z9 := Tryz.sizeOf9
  v9 := Tryz.zeroValue9
  t22 := Tryz.underlying188
  a22 := Tryz.isAgg188
  z22 := Tryz.sizeOf188
  v22 := Tryz.zeroValue188
  t25 := Tryz.underlying193
  a25 := Tryz.isAgg193
  z25 := Tryz.sizeOf193
  v25 := Tryz.zeroValue193
  t39 := Tryz.underlying49
  a39 := Tryz.isAgg49
  z39 := Tryz.sizeOf49
  v39 := Tryz.zeroValue49
  t45 := Tryz.underlying257
  a45 := Tryz.isAgg257
  z45 := Tryz.sizeOf257
  v45 := Tryz.zeroValue257
  t46 := Tryz.underlying258
  a46 := Tryz.isAgg258
  z46 := Tryz.sizeOf258
  v46 := Tryz.zeroValue258
  t50 := Tryz.underlying185
  a50 := Tryz.isAgg185
  z50 := Tryz.sizeOf185
  v50 := Tryz.zeroValue185
  t53 := Tryz.underlying67
  a53 := Tryz.isAgg67
  z53 := Tryz.sizeOf67
  v53 := Tryz.zeroValue67
  t55 := Tryz.underlying34
  a55 := Tryz.isAgg34
  z55 := Tryz.sizeOf34
  v55 := Tryz.zeroValue34
  t66 := Tryz.underlying265
  a66 := Tryz.isAgg265
  z66 := Tryz.sizeOf265
  v66 := Tryz.zeroValue265
  t70 := Tryz.underlying269
  a70 := Tryz.isAgg269
  z70 := Tryz.sizeOf269
  v70 := Tryz.zeroValue269
  t76 := Tryz.underlying271
  a76 := Tryz.isAgg271
  z76 := Tryz.sizeOf271
  v76 := Tryz.zeroValue271
  t77 := Tryz.underlying124
  a77 := Tryz.isAgg124
  z77 := Tryz.sizeOf124
  v77 := Tryz.zeroValue124 }
end Go.Proofs.YtmjcbjcnmgleaaaGreatDoor
namespace Go.Proofs.YtmjcbjcnmgleaaaGreatDoor
open Go.RowKit Go.Shelf
def cmpI (x y : Int) : Int := if x < y then -1 else if y < x then 1 else 0
theorem cmpI_lt {x y : Int} (h : x < y) : cmpI x y = -1 := by simp [cmpI, h]
theorem cmpI_gt {x y : Int} (h : y < x) : cmpI x y = 1 := by
  unfold cmpI
  rw [if_neg (by omega), if_pos h]
theorem cmpI_eq (x : Int) : cmpI x x = 0 := by simp [cmpI]
theorem ret_num {a b : Int} (h : a = b) : Ending.returned (.int .i64 a) = .returned (.int .i64 b) := by rw [h]
theorem nan_kind (x : Int) (w : World) : Calls Tryz.prog 151 #[.int .u8 x] w fun e w' => e = .returned (.bool false) ∧ w = w' := by
  go_enter Tryz.func151, Tryz.ntmps151
  go_wp2
  go_ret
  exact ⟨ret_bool (by simp), rfl⟩
theorem nan_int (x : Int) (w : World) : Calls Tryz.prog 152 #[.int .i64 x] w fun e w' => e = .returned (.bool false) ∧ w = w' := by
  go_enter Tryz.func152, Tryz.ntmps152
  go_wp2
  go_ret
  exact ⟨ret_bool (by simp), rfl⟩
set_option maxHeartbeats 1000000 in
theorem cmp_kind (x y : Int) (w : World) : Calls Tryz.prog 140 #[.int .u8 x, .int .u8 y] w fun e w' => e = .returned (.int .i64 (cmpI x y)) ∧ w = w' := by
  go_enter Tryz.func140, Tryz.ntmps140
  go_wp2_with (go_at_call 151; refine (nan_kind _ _).mono ?_; rintro e w' ⟨rfl, rfl⟩)
  all_goals
    go_ret
    refine ⟨ret_num ?_, rfl⟩
    unfold cmpI
    first | (rw [if_pos (by assumption)]; done) | (rw [if_neg (by omega), if_pos (by assumption)]; done) | (rw [if_neg (by omega), if_neg (by omega)])
set_option maxHeartbeats 1000000 in
theorem cmp_int (x y : Int) (w : World) : Calls Tryz.prog 141 #[.int .i64 x, .int .i64 y] w fun e w' => e = .returned (.int .i64 (cmpI x y)) ∧ w = w' := by
  go_enter Tryz.func141, Tryz.ntmps141
  go_wp2_with (go_at_call 152; refine (nan_int _ _).mono ?_; rintro e w' ⟨rfl, rfl⟩)
  all_goals
    go_ret
    refine ⟨ret_num ?_, rfl⟩
    unfold cmpI
    first | (rw [if_pos (by assumption)]; done) | (rw [if_neg (by omega), if_pos (by assumption)]; done) | (rw [if_neg (by omega), if_neg (by omega)])
end Go.Proofs.YtmjcbjcnmgleaaaGreatDoor
namespace Go.Proofs.YtmjcbjcnmgleaaaGreatDoor
open Go.RowKit Go.Shelf Go.Lib Go.Sort
def or3 (x y z : Int) : Int := if x ≠ 0 then x else if y ≠ 0 then y else z
set_option maxHeartbeats 1000000 in
theorem or_any (g : Nat) (x y z : Int) (w : World) (h0 : w.cell? ⟨g, 0, none⟩ = some (.int .i64 x)) (h1 : w.cell? ⟨g, 1, none⟩ = some (.int .i64 y)) (h2 : w.cell? ⟨g, 2, none⟩ = some (.int .i64 z)) :
    Calls Tryz.prog 139 #[.slice (some ⟨g, 0, none⟩) 3 3] w fun e w' => e = .returned (.int .i64 (or3 x y z)) ∧ w = w' := by
  by_cases hx : x = 0
  · by_cases hy : y = 0
    · by_cases hz : z = 0
      · subst hx; subst hy; subst hz
        go_enter Tryz.func139, Tryz.ntmps139
        go_wp2
        refine wp_loop_rounds 4 ?_
        rw [rounds_succ]
        go_wp2
        rw [rounds_succ]
        go_wp2
        rw [rounds_succ]
        go_wp2
        rw [rounds_succ]
        go_wp2
        go_ret
        exact ⟨ret_num (by simp [or3]), rfl⟩
      · have kz : (z != 0) = true := by simpa using hz
        have HZ : Hid (or3 0 0 z = z) := Lib.hid (by simp [or3])
        subst hx; subst hy
        clear hz
        go_enter Tryz.func139, Tryz.ntmps139
        go_wp2
        refine wp_loop_rounds 3 ?_
        rw [rounds_succ]
        go_wp2
        rw [rounds_succ]
        go_wp2
        rw [rounds_succ]
        go_wp2
        go_ret
        exact ⟨ret_num HZ.out.symm, rfl⟩
    · have ky : (y != 0) = true := by simpa using hy
      have HZ : Hid (or3 0 y z = y) := Lib.hid (by simp [or3, hy])
      subst hx
      clear hy
      go_enter Tryz.func139, Tryz.ntmps139
      go_wp2
      refine wp_loop_rounds 2 ?_
      rw [rounds_succ]
      go_wp2
      rw [rounds_succ]
      go_wp2
      go_ret
      exact ⟨ret_num HZ.out.symm, rfl⟩
  · have kx : (x != 0) = true := by simpa using hx
    have HZ : Hid (or3 x y z = x) := Lib.hid (by simp [or3, hx])
    clear hx
    go_enter Tryz.func139, Tryz.ntmps139
    go_wp2
    refine wp_loop_rounds 1 ?_
    rw [rounds_succ]
    go_wp2
    go_ret
    exact ⟨ret_num HZ.out.symm, rfl⟩
def cmp3 (k a f k' a' f' : Int) : Int := or3 (cmpI k k') (cmpI a a') (cmpI f f')
set_option maxHeartbeats 2000000 in
set_option maxRecDepth 100000 in
theorem compare_any (k a f k' a' f' : Int) (w : World) :
    Calls Tryz.prog 116 #[.agg #[.int .u8 k, .int .i64 a, .int .i64 f], .agg #[.int .u8 k', .int .i64 a', .int .i64 f']] w fun e w' => e = .returned (.int .i64 (cmp3 k a f k' a' f')) ∧ ∃ q os', w' = grow (w.drewN q) os' := by
  obtain ⟨w0, HW⟩ : ∃ w0, w0 = (w.alloc (.cells #[.int .u8 k, .int .i64 a, .int .i64 f] 33)).alloc (.cells #[.int .u8 k', .int .i64 a', .int .i64 f'] 33) := ⟨_, rfl⟩
  have e0 : w0.drew.cell? ⟨w.heap.size, 0, none⟩ = some (.int .u8 k) := by rw [HW]; simp [go_sem]
  have e1 : w0.drew.cell? ⟨w.heap.size, 1, none⟩ = some (.int .i64 a) := by rw [HW]; simp [go_sem]
  have e2 : w0.drew.cell? ⟨w.heap.size, 2, none⟩ = some (.int .i64 f) := by rw [HW]; simp [go_sem]
  have e3 : w0.drew.cell? ⟨w.heap.size + 1, 0, none⟩ = some (.int .u8 k') := by rw [HW]; simp [go_sem]
  have e4 : w0.drew.cell? ⟨w.heap.size + 1, 1, none⟩ = some (.int .i64 a') := by rw [HW]; simp [go_sem]
  have e5 : w0.drew.cell? ⟨w.heap.size + 1, 2, none⟩ = some (.int .i64 f') := by rw [HW]; simp [go_sem]
  have HW' := Lib.hid HW
  have HC := Lib.hid (show cmp3 k a f k' a' f' = or3 (cmpI k k') (cmpI a a') (cmpI f f') from rfl)
  generalize cmp3 k a f k' a' f' = r at HC ⊢
  go_enter Tryz.func116, Tryz.ntmps116
  go_wp2_with fail
  rw [← HW]
  clear HW
  refine wp_region_still_tail 15 (by kernel_rfl) (by kernel_rfl) ?_
  change wpStill _ _ w0.drew _ _ _
  change wpStill _ _ w0.drew (fun a' => wpList _ _ _ _ a' w0.drew) _ _
  simp only [List.take_succ_cons, List.take_zero, List.drop_succ_cons, List.drop_zero]
  have hcK := cmp_kind k k' w0.drew
  have hcA := cmp_int a a' w0.drew
  have hcF := cmp_int f f' w0.drew
  generalize cmpI k k' = x at HC hcK
  generalize cmpI a a' = y at HC hcA
  generalize cmpI f f' = z at HC hcF
  generalize hwd : w0.drew = wd at e0 e1 e2 e3 e4 e5 hcK hcA hcF ⊢
  have HD := Lib.hid hwd
  clear hwd
  still_step
  still_step
  still_step
  still_step
  still_call (hcK.mono fun _ _ h => ⟨h.1, h.2.symm⟩)
  still_step
  still_step
  still_step
  still_step
  still_call (hcA.mono fun _ _ h => ⟨h.1, h.2.symm⟩)
  still_step
  still_step
  still_step
  still_step
  still_call (hcF.mono fun _ _ h => ⟨h.1, h.2.symm⟩)
  refine wpStill_nil ?_
  clear hcK hcA hcF
  go_wp2_with (go_at_call 139; refine (or_any wd.heap.size x y z _ (by simp [go_sem]) (by simp [go_sem]) (by simp [go_sem])).mono ?_; rintro e w' ⟨rfl, rfl⟩)
  go_ret
  refine ⟨ret_num HC.out.symm, 1, #[.cells #[.int .u8 k, .int .i64 a, .int .i64 f] 33, .cells #[.int .u8 k', .int .i64 a', .int .i64 f'] 33, .cells #[.int .i64 x, .int .i64 y, .int .i64 z] 3], ?_⟩
  rw [← HD.out, HW'.out]
  simp only [alloc_eq_grow, World.drewN, World.drew, grow]
  simp [← Array.toList_inj]
end Go.Proofs.YtmjcbjcnmgleaaaGreatDoor
namespace Go.Proofs.YtmjcbjcnmgleaaaGreatDoor
open Go.RowKit Go.Maps Go.Shelf
def Ad.cells (x : Ad) : List Value := [.int .u8 x.k, .int .i64 x.a, .int .i64 x.f]
def flatA (l : List Ad) : List Value := l.flatMap Ad.cells
theorem flatA_snoc (l : List Ad) (x : Ad) : flatA (l ++ [x]) = flatA l ++ x.cells := by simp [flatA]
theorem flatA_len (l : List Ad) : (flatA l).length = l.length * 3 := by
  induction l with
  | nil => rfl
  | cons x r ih =>
    show (x.cells ++ flatA r).length = _
    rw [List.length_append, ih]
    simp only [Ad.cells, List.length_cons, List.length_nil]
    omega
theorem Ad.one (x : Ad) : ∀ u ∈ x.cells, u.oneCell' = true := by
  intro u hu
  simp [Ad.cells] at hu
  rcases hu with rfl | rfl | rfl <;> rfl
theorem Tryz_info31 : (Tryz.prog.info? 33).map (fun i => (i.zero, i.size, i.bytes)) = some (some (.agg #[.int .u8 0, .int .i64 0, .int .i64 0]), 3, 24) := by kernel_rfl
theorem cells_new (w : World) (xs : List Value) (t : TypeId) : ∀ j u, xs[j]? = some u → (w.alloc (.cells xs.toArray t)).cell? ((⟨w.heap.size, 0, none⟩ : Addr).add j) = some u := by
  intro j u hj
  by_cases h : j = 0
  · subst h
    simp [Addr.add, hj]
  · simp [Addr.add, h, hj]
def Box3 (W : World) (B : Nat) (x : Ad) : Prop := W.heap[B]? = some (.cells #[.int .u8 x.k, .int .i64 x.a, .int .i64 x.f] 33 (0, 0))
theorem Box3.new (W : World) (x : Ad) : Box3 (W.alloc (.cells #[.int .u8 x.k, .int .i64 x.a, .int .i64 x.f] 33)) W.heap.size x := World.alloc_heap_new W _
theorem Box3.cell {W : World} {B : Nat} {x : Ad} (h : Box3 W B x) : W.cell? ⟨B, 0, none⟩ = some (.int .u8 x.k) ∧ W.cell? ⟨B, 1, none⟩ = some (.int .i64 x.a) ∧ W.cell? ⟨B, 2, none⟩ = some (.int .i64 x.f) := by
  refine ⟨?_, ?_, ?_⟩ <;> simp [World.cell?, show W.heap[B]? = _ from h]
theorem Box3.kept {W W' : World} {row : Option Nat} {B : Nat} {x : Ad} (h : Box3 W B x) (hg : W.grownBy W' row) (hne : some B ≠ row) : Box3 W' B x := (hg.block B (Array.getElem?_eq_some_iff.1 h).1 hne).trans h
theorem box3_own {β : Type} (B : Nat) (x : Ad) : Own (fun (_ : β) W => Box3 W B x) := fun s X Y row hs hg hrow =>
  hs.kept hg (fun e' => by obtain ⟨o, ho, hc⟩ := hrow B e'.symm; rw [show X.heap[B]? = _ from hs] at ho; cases ho; cases hc)
def SeqPost {H : Type} (D0 : DataW H) (w : World) (e : Ending) (W' : World) : Prop :=
  ∃ (v : Value) (ss : List Ad), e = .returned v ∧ (ss.Nodup ∧ (∀ x : Ad, x ∈ ss ↔ has D0 x.lit = true) ∧ ss.length = Maps.size D0) ∧ W'.ownsRow w.heap.size 33 3 v ss.length (flatA ss) ∧ (v = .slice none 0 0 ↔ ss = []) ∧ Below w.heap.size w W'
set_option maxRecDepth 100000 in
set_option maxHeartbeats 2000000 in
theorem appendSeq_in {H : Type} (F : Fence) (n : Nat) (h41 : F.fn 148) (h37 : F.fn 138) (hro : F.round = none) (hn : 3 ≤ n) (Bm b nn : Nat) (D0 : DataW H) (hsz : Maps.size D0 ≤ 1000000) (w : World) (hBm : Bm < w.heap.size)
    (hm : w.cell? ⟨Bm, 0, none⟩ = some (.map (some b))) (hown : w.ownsMap Tryz.prog 33 (plainElem Tryz.prog 34) b nn D0) :
    CallsIn F n Tryz.prog 148 #[.slice none 0 0, .func (.func 138) #[] #[.pointer (some ⟨Bm, 0, none⟩)]] w (SeqPost D0 w) := by
  have h1 : 1 ≤ n := by omega
  obtain ⟨i0, hi, hz0, hz1, hz2⟩ := info_parts Tryz_info31
  refine callsIn_of_wp_marks Tryz.func148 rfl h41 ?_ hro
  simp only [Tryz.ntmps148, List.size_toArray, List.length_cons, List.length_nil, Nat.reduceAdd, Nat.reduceSub, Array.replicate_succ, Array.replicate_zero, List.push_toArray, List.append_toArray, List.nil_append, List.cons_append]
  gi_wp2
  have bO := Boxed.new w 188 (.slice none 0 0)
  have hB0 : Below w.heap.size w (w.alloc (.cells #[.slice none 0 0] 188)) := (Below.refl _ w).alloc (Nat.le_refl _) _
  have hszw : (w.alloc (.cells #[.slice none 0 0] 188)).heap.size = w.heap.size + 1 := by simp
  have hst := keys_stops F (n - 1) h37 hro (by omega) Bm b nn D0 (w.alloc (.cells #[.slice none 0 0] 188)) (by omega) ((hB0.cell (p := ⟨Bm, 0, none⟩) hBm).trans hm) (hown.alloc _)
  obtain ⟨W0, hW0⟩ : ∃ W0, w.alloc (.cells #[.slice none 0 0] 188) = W0 := ⟨_, rfl⟩
  rw [hW0] at bO hB0 hszw hst ⊢
  clear hW0
  refine wpIn_rangeFunc_ownH hro h1 (gf := 138) (lb := #[.pointer (some ⟨Bm, 0, none⟩)]) rfl h37 (enters_of Tryz.func138 (by kernel_rfl) rfl)
    hst walksK_t walksK_b (Below.refl _ _) (fun _ => rfl)
    (fun pre W => (∃ v, Boxed W w.heap.size 188 v ∧ W.ownsRow w.heap.size 33 3 v pre.length (flatA pre) ∧ (v = .slice none 0 0 ↔ pre = [])) ∧ Below w.heap.size w W)
    (fun _ _ _ => False)
    (OwnFrom.and (Own.from (holdsRow_own w.heap.size w.heap.size 188 33 3 (fun pre : List Ad => pre.length) (fun pre => flatA pre) (fun pre v => v = .slice none 0 0 ↔ pre = [])) _) (ownFrom_below (Nat.le_refl _) (by omega)))
    (fun _ _ _ _ _ hs _ _ => hs)
    ⟨⟨_, bO, World.ownsRow_nil _ _ _ _, by simp⟩, hB0⟩
    (fun x a' W => ∃ Bx, w.heap.size < Bx ∧ Box3 W Bx x ∧ a' = { tmps := #[.slice none 0 0, .func (.func 138) #[] #[.pointer (some ⟨Bm, 0, none⟩)], .pointer (some ⟨w.heap.size, 0, none⟩), undef, .slice none 0 0, .pointer (some ⟨Bx, 0, none⟩), .func (.func 138) #[] #[.pointer (some ⟨Bm, 0, none⟩)], x.v, undef, undef, undef, undef, undef], defers := [] })
    (fun x a' _ X Y row hs hg hr => by obtain ⟨Bx, h1, h2, h3⟩ := hs; exact ⟨Bx, h1, box3_own Bx x () X Y row h2 hg (fun r e => (hr r e).2), h3⟩)
    ?assign ?body ?done ?stop
  case assign =>
    rintro l pre x W K ⟨⟨v, hv, hrow, hnil⟩, hB1⟩ hK
    simp only [Ad.v, addrV] at hK ⊢
    gi_wp2_with (rw [Oper.semAt_eq _ _ _ (fun c h => by cases h)]; go_simp; try go_bits)
    exact hK _ _ ((KeepsOthers.alloc _ _).from _) (KeepsOthers.alloc _ _).walks ⟨⟨v, hv.alloc _, hrow.alloc _, hnil⟩, hB1.alloc hB1.size _⟩ ⟨W.heap.size, hv.lt, Box3.new W x, rfl⟩
  case body =>
    rintro l pre x a' W hl ⟨r, hr⟩ ⟨⟨v, hv, hrow, hnil⟩, hB1⟩ ⟨Bx, hBx, bX, rfl⟩ hlt
    have hc := hv.cell
    obtain ⟨x0, x1, x2⟩ := bX.cell
    simp only [Ad.v, addrV]
    gi_wp2_with (first | (gi_at_builtin; refine wpListIn_append_own _ rfl _ _ 188 rfl w.heap.size 33 i0 (.agg #[.int .u8 0, .int .i64 0, .int .i64 0]) 3 24 Tryz.underlying188 hi hz0 hz1 hz2 rfl (by decide) _ _ _ rfl (hrow.alloc _) ⟨W.heap.size, 0, none⟩ 1 1 x.cells rfl rfl (cells_new _ _ _) x.one (by unfold maxLen; omega) (by omega) (by have := hB1.size; simp; omega) ?_; intro v' w1 hown' hgrow _; obtain ⟨g', cap', rfl⟩ := ownsRow_succ hown'; obtain ⟨hv1, hv2, hr2, hk2, hb2⟩ := hv.appended (by decide) hrow hB1.size (Nat.le_refl _) hown' hgrow; have hc1 := hv1.cell; have hf1 := hv1.frozen) | (rw [Oper.semAt_eq _ _ _ (fun c h => by cases h)]; go_simp; try go_bits))
    exact ⟨hk2.from _, hk2.walks, ⟨_, hv2, by rw [flatA_snoc]; simpa using hr2, by simp⟩, hB1.trans hb2⟩
  case done =>
    rintro D ys W hD hS ⟨⟨v, hv, hrow, hnil⟩, hB⟩ hK
    have hc := hv.cell
    gi_wp2
    refine ⟨by simp, .inl ⟨_, _, rfl, run_takeDeferred hK, ?_⟩⟩
    exact ⟨_, results_tmp rfl _ _ _, v, ys, rfl, hS, ownsRow_putObj hrow _ hK rfl, hnil, hB.trans (belowK_b (w := w) (Nat.le_refl _) W D _ _ (by omega) hK rfl rfl)⟩
  case stop =>
    rintro D c pre W _ _ h _
    exact h.elim
end Go.Proofs.YtmjcbjcnmgleaaaGreatDoor
