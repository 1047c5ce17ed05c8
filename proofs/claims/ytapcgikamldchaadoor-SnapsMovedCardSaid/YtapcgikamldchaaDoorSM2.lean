/-
  The law's helpers: a thread's word by its field; threads' words stored into a memory; condition: the memory lies as it says, numbers of their kinds.
-/
import Derived.Test.YtapcgikamldchaaDoorSL1
namespace Go.Proofs.YtapcgikamldchaaDoor
open Go.RowKit Go.Maps

section
variable {w W : World} {p b n c : Nat} {M : MV} {xs : List TH} {A : Option Addr}
set_option maxRecDepth 100000 in
set_option maxHeartbeats 4000000 in
theorem wordT_any (t : TH) (f : Nat) (hf : f < 10) (w : World) : Calls Tryd.prog 26 #[.agg #[.int .u64 (t.get 0), .int .u64 (t.get 1), .int .u64 (t.get 2), .int .u64 (t.get 3), .int .u64 (t.get 4), .int .u64 (t.get 5), .int .u64 (t.get 6), .int .u64 (t.get 7), .int .u64 (t.get 8), .int .u64 (t.get 9)], .int .i64 (f : Int)] w fun e w' => e = .returned (.int .u64 (t.get f)) ∧ Below w.heap.size w w' := by
  have h1 : Below w.heap.size w (w.alloc (.cells #[.int .u64 (t.get 0), .int .u64 (t.get 1), .int .u64 (t.get 2), .int .u64 (t.get 3), .int .u64 (t.get 4), .int .u64 (t.get 5), .int .u64 (t.get 6), .int .u64 (t.get 7), .int .u64 (t.get 8), .int .u64 (t.get 9)] 52)) := (Below.refl _ _).alloc (Nat.le_refl _) _
  have h2 := h1.alloc (by rw [size_al]; omega) (.cells #[.int .u64 (t.get 0), .int .u64 (t.get 1), .int .u64 (t.get 2), .int .u64 (t.get 3), .int .u64 (t.get 4), .int .u64 (t.get 5), .int .u64 (t.get 6), .int .u64 (t.get 7), .int .u64 (t.get 8), .int .u64 (t.get 9)] 34)
  have k2 : Bq (w.heap.size + 1) 34 t.cells ((w.alloc (.cells #[.int .u64 (t.get 0), .int .u64 (t.get 1), .int .u64 (t.get 2), .int .u64 (t.get 3), .int .u64 (t.get 4), .int .u64 (t.get 5), .int .u64 (t.get 6), .int .u64 (t.get 7), .int .u64 (t.get 8), .int .u64 (t.get 9)] 52)).alloc (.cells #[.int .u64 (t.get 0), .int .u64 (t.get 1), .int .u64 (t.get 2), .int .u64 (t.get 3), .int .u64 (t.get 4), .int .u64 (t.get 5), .int .u64 (t.get 6), .int .u64 (t.get 7), .int .u64 (t.get 8), .int .u64 (t.get 9)] 34)) := by
    have h9 := Bq.new (w.alloc (.cells #[.int .u64 (t.get 0), .int .u64 (t.get 1), .int .u64 (t.get 2), .int .u64 (t.get 3), .int .u64 (t.get 4), .int .u64 (t.get 5), .int .u64 (t.get 6), .int .u64 (t.get 7), .int .u64 (t.get 8), .int .u64 (t.get 9)] 52)) t.cells 34
    rw [size_al] at h9
    exact h9
  have y := (k2.cell f).trans (t.cells_get hf)
  have HB := Lib.hid h2
  have hf0 : (0 : Int) ≤ (f : Int) := by omega
  have hf1 : (f : Int) < 10 := by omega
  have hf2 : ¬ (f : Int) < 0 := by omega
  have hf3 : ¬ (10 : Int) ≤ (f : Int) := by omega
  clear h1 h2 k2
  go_enter Tryd.func26, Tryd.ntmps26
  go_wp2_with fail
  go_ret
  exact ⟨rfl, HB.out⟩
theorem SeeH.onl {w0 : World} {v : Value} (h : SeeH W v xs) (hW : Below W.heap.size W w0) (hp : W.heap.size ≤ p ∧ W.heap.size ≤ b) (o : Onl p b [] w0 w) : SeeH w v xs := h.below (hW.trans (o.below hp.1 hp.2 (by simp) hW.size))
/-- The words behind so many of them. -/
def LayN (V0 V : Ad → Int) (xs : List TH) (bk : Int) (i f : Nat) : Prop := V adN = bk ∧ ∀ t g : Nat, t < 16 → g < 10 → V (adT (t : Int) (g : Int)) = if t < i ∨ (t = i ∧ g < f) then (xs.getD t TH.zero).get g else V0 (adT (t : Int) (g : Int))
theorem LayN.put {V0 V : Ad → Int} {bk : Int} {i f : Nat} (h : LayN V0 V xs bk i f) (hi : i < 16) (hf : f < 10) : LayN V0 (setV V (adT (i : Int) (f : Int)) ((xs.getD i TH.zero).get f)) xs bk i (f + 1) := by
  have ha : (0 : Int) ≤ (i : Int) ∧ (i : Int) < 16 := by omega
  have hb : (0 : Int) ≤ (f : Int) ∧ (f : Int) < 10 := by omega
  refine ⟨(setV_other (neNT ha hb) _).trans h.1, fun t g ht hg => ?_⟩
  by_cases e : t = i ∧ g = f
  · obtain ⟨rfl, rfl⟩ := e
    rw [setV_same (mayT ha hb), if_pos (by omega)]
  · rw [setV_other (neTT (by omega) (by omega) ha hb (by omega)), h.2 t g ht hg]
    by_cases e2 : t < i ∨ (t = i ∧ g < f)
    · rw [if_pos e2, if_pos (by omega)]
    · rw [if_neg e2, if_neg (by omega)]
theorem LayN.next {V0 V : Ad → Int} {bk : Int} {i : Nat} (h : LayN V0 V xs bk i 10) : LayN V0 V xs bk (i + 1) 0 := by
  refine ⟨h.1, fun t g ht hg => ?_⟩
  rw [h.2 t g ht hg]
  by_cases e : t < i ∨ (t = i ∧ g < 10)
  · rw [if_pos e, if_pos (by omega)]
  · rw [if_neg e, if_neg (by omega)]
theorem LayN.start {V0 : Ad → Int} {bk : Int} : LayN V0 (setV V0 adN bk) xs bk 0 0 := by
  refine ⟨setV_same mayN _, fun t g ht hg => ?_⟩
  rw [setV_other (Ne.symm (neNT (by omega) (by omega))), if_neg (by omega)]
set_option maxRecDepth 100000 in
set_option maxHeartbeats 8000000 in
theorem lay_all (F : VX p b M w) (hs : M.s.st < 900000) (hW : Below W.heap.size W w) (hp : W.heap.size ≤ p ∧ W.heap.size ≤ b) (h : SeeH W (.slice A n c) xs) (hok : ∀ t ∈ xs, t.ok) (hn : n ≤ 16) {bk : Int} (hbk : 0 ≤ bk ∧ bk < 256) :
    Calls Tryd.prog 22 #[.pointer (some ⟨p, 0, none⟩), .slice A n c, .int .i64 bk] w fun e w' => e = .returned (.tuple #[]) ∧ ∃ M', VX p b M' w' ∧ LayN M.V M'.V xs bk n 0 ∧ M'.s.st = M.s.st + 1 + 10 * (n : Int) ∧ Onl p b [] w w' := by
  have HN := Lib.hid h.len
  have HF := Lib.hid F
  have HX := Lib.hid h
  have HOK := Lib.hid hok
  have HW := Lib.hid hW
  have h0 := F.st0
  have hwb : IntKind.u64.wrap bk = bk := by simp [IntKind.wrap, IntKind.bits, IntKind.signed]; omega
  have hub : U64 bk := ⟨by omega, by omega⟩
  have a1 : adN.k = 5 ∧ adN.a = 0 ∧ adN.f = 0 := ⟨rfl, rfl, rfl⟩
  have hs1 : M.s.st < 1000000 := by omega
  clear F h hok hW
  go_enter Tryd.func22, Tryd.ntmps22
  go_wp2_with fail
  ((with_reducible refine (HF.out.stA (x := adN) (k := 5) (a := 0) (f := 0) (v := bk) hs1 a1 hub).mono ?_); rintro e w1 ⟨rfl, f1, o1⟩)
  have HH := Lib.hid (show ∃ M1 : MV, VX p b M1 w1 ∧ LayN M.V M1.V xs bk 0 0 ∧ M1.s.st = M.s.st + 1 + 10 * ((0 : Nat) : Int) + ((0 : Nat) : Int) ∧ Onl p b [] w w1 from ⟨_, f1, LayN.start, by show M.s.st + 1 = _; simp, .of_only o1⟩)
  clear f1 o1 HF
  go_wp2_with fail
  go_loopw [6] (fun j wr => ∃ i : Nat, i ≤ n ∧ j = .int .i64 (i : Int) ∧ Hid (∃ M1 : MV, VX p b M1 wr ∧ LayN M.V M1.V xs bk i 0 ∧ M1.s.st = M.s.st + 1 + 10 * (i : Int) + ((0 : Nat) : Int) ∧ Onl p b [] w wr)) (fun j _ => n - (intOf j).toNat)
  case atStart => exact ⟨0, Nat.zero_le _, rfl, HH⟩
  case round =>
    clear HH
    obtain ⟨i, hi, rfl, HH⟩ := hrel
    rename World => wr
    have hi0 : (0 : Int) ≤ (i : Int) := by omega
    by_cases hin : i < n
    · have hin' : (i : Int) < (n : Int) := by omega
      have hin2 : (i : Int) < 16 := by omega
      have hig : i < xs.length := by have := HN.out; omega
      go_wp2_with fail
      go_loopw [7] (fun j w2 => ∃ f : Nat, f ≤ 10 ∧ j = .int .i64 (f : Int) ∧ Hid (∃ M1 : MV, VX p b M1 w2 ∧ LayN M.V M1.V xs bk i f ∧ M1.s.st = M.s.st + 1 + 10 * (i : Int) + (f : Int) ∧ Onl p b [] w w2)) (fun j _ => 10 - (intOf j).toNat)
      case atStart => exact ⟨0, Nat.zero_le _, rfl, HH⟩
      case round =>
        clear HH
        obtain ⟨f, hf, rfl, HG⟩ := hrel
        rename World => w2
        have hf0 : (0 : Int) ≤ (f : Int) := by omega
        by_cases hfl : f < 10
        · have hfl' : (f : Int) < 10 := by omega
          obtain ⟨M1, g1, g2, g3, g4⟩ := HG.out
          have HX2 := Lib.hid (HX.out.onl HW.out hp g4)
          obtain ⟨hc0, hc1, gx, off, rfl⟩ := HX.out.addr (by omega)
          obtain ⟨y0, y1, y2, y3, y4, y5, y6, y7, y8, y9⟩ := HX2.out.ten hig
          have HG1 := Lib.hid g1
          have HG2 := Lib.hid g2
          have HG3 := Lib.hid g3
          have HG4 := Lib.hid g4
          have hms : M1.s.st < 1000000 := by omega
          have HU := Lib.hid (HOK.out (xs.getD i TH.zero) (by rw [List.getD_eq_getElem?_getD, List.getElem?_eq_getElem hig]; exact List.getElem_mem _) f hfl)
          have a2 := adT_at (t := (i : Int)) (f := (f : Int)) ⟨hi0, hin2⟩ ⟨hf0, hfl'⟩
          have HP := Lib.hid (g2.put (by omega) hfl)
          obtain ⟨x, hx⟩ : ∃ x, xs.getD i TH.zero = x := ⟨_, rfl⟩
          rw [hx] at y0 y1 y2 y3 y4 y5 y6 y7 y8 y9 HU HP
          clear hx HG g1 g2 g3 g4
          go_wp2_with fail
          ((with_reducible refine (wordT_any x f hfl w2).mono ?_); rintro e w3 ⟨rfl, hb3⟩)
          have HF3 := Lib.hid (HG1.out.below hb3)
          have HO3 := Lib.hid (HG4.out.trans (.of_below hb3))
          clear hb3 HG1 HG4
          go_wp2_with fail
          ((with_reducible refine (HF3.out.stA (x := adT (i : Int) (f : Int)) (k := 8) (a := (i : Int)) (f := (f : Int)) (v := x.get f) hms a2 HU.out).mono ?_); rintro e w4 ⟨rfl, f4, o4⟩)
          have HR := Lib.hid (show ∃ M1 : MV, VX p b M1 w4 ∧ LayN M.V M1.V xs bk i (f + 1) ∧ M1.s.st = M.s.st + 1 + 10 * (i : Int) + ((f + 1 : Nat) : Int) ∧ Onl p b [] w w4 from ⟨_, f4, HP.out, by show M1.s.st + 1 = _; rw [HG3.out]; push_cast; omega, HO3.out.trans (.of_only o4)⟩)
          clear f4 o4
          go_wp2_with fail
          go_roundw
          case rel => exact ⟨f + 1, by omega, by go_num, HR⟩
          case measure => simp [intOf]; omega
        · obtain rfl : f = 10 := by omega
          have hnl : ¬ ((10 : Nat) : Int) < 10 := by omega
          have HR := Lib.hid (show ∃ M1 : MV, VX p b M1 w2 ∧ LayN M.V M1.V xs bk (i + 1) 0 ∧ M1.s.st = M.s.st + 1 + 10 * ((i + 1 : Nat) : Int) + ((0 : Nat) : Int) ∧ Onl p b [] w w2 by
            obtain ⟨M1, g1, g2, g3, g4⟩ := HG.out
            exact ⟨M1, g1, g2.next, by rw [g3]; push_cast; omega, g4⟩)
          clear HG
          go_wp2_with fail
          go_roundw
          case rel => exact ⟨i + 1, by omega, by go_num, HR⟩
          case measure => simp [intOf]; omega
    · have hin2 : i = n := by omega
      have hnl : ¬ (i : Int) < (n : Int) := by omega
      have HR := Lib.hid (show ∃ M1 : MV, VX p b M1 wr ∧ LayN M.V M1.V xs bk n 0 ∧ M1.s.st = M.s.st + 1 + 10 * (n : Int) ∧ Onl p b [] w wr by
        obtain ⟨M1, g1, g2, g3, g4⟩ := HH.out
        exact ⟨M1, g1, hin2 ▸ g2, by rw [g3, ← hin2]; simp, g4⟩)
      clear HH hin2
      go_wp2_with fail
      go_end0
      exact ⟨rfl, HR.out⟩
end
end Go.Proofs.YtapcgikamldchaaDoor
