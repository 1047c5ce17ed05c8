/-
  The program's count of headers by their states: pointers into the counts, one a state; conditions: the table of fields reads as the program lays it; the words lie as it says, and are numbers of their kind.
-/
import Derived.Test.YtelehpegnjbcaaaDoorP2
import Derived.Test.YtelehpegnjbcaaaDoorGE4
namespace Go.Proofs.YtelehpegnjbcaaaDoor
open Go.RowKit

def cntA (l : List Int) : Array Value := #[.int .i64 (countN l 0 : Int), .int .i64 (countN l 1 : Int), .int .i64 (countN l 2 : Int), .int .i64 (countN l 3 : Int), .int .i64 (countN l 4 : Int)]
def ptrA (q : Nat) : Array Value := #[.pointer (some ⟨q, 0, none⟩), .pointer (some ⟨q, 1, none⟩), .pointer (some ⟨q, 2, none⟩), .pointer (some ⟨q, 3, none⟩), .pointer (some ⟨q, 4, none⟩)]
/-- What stands between two rounds. -/
structure CtAt (w : World) (l : List Int) (W : World) : Prop where
  low : Below w.heap.size w W
  res : W.heap[w.heap.size]? = some (.cells (cntA []) 36 (0, 0))
  cnt : W.heap[w.heap.size + 1]? = some (.cells (cntA l) 36 (0, 0))
  ptr : W.heap[w.heap.size + 2]? = some (.cells (ptrA (w.heap.size + 1)) 53 (0, 0))
theorem CtAt.grown {w W W' : World} {l : List Int} (h : CtAt w l W) (hb : Below W.heap.size W W') : CtAt w l W' :=
  ⟨h.low.trans (hb.mono h.low.size), (hb.block _ (Array.getElem?_eq_some_iff.1 h.res).1).trans h.res, (hb.block _ (Array.getElem?_eq_some_iff.1 h.cnt).1).trans h.cnt, (hb.block _ (Array.getElem?_eq_some_iff.1 h.ptr).1).trans h.ptr⟩
theorem CtAt.put {w W W' : World} {l l' : List Int} (h : CtAt w l W) (hp : Put W W' (w.heap.size + 1) 36 (cntA l')) : CtAt w l' W' :=
  ⟨hp.below h.low (by omega), (hp.far _ (by omega)).trans h.res, hp.at_, (hp.far _ (by omega)).trans h.ptr⟩
set_option maxRecDepth 100000 in
set_option maxHeartbeats 4000000 in
theorem pcount_any (A : Option Addr) (cap : Nat) (l : List Int) (w : World) (hL : Lay w) (hs : Row w A (l.map uV)) (hu : ∀ x ∈ l, U64 x) (hl : l.length ≤ 1000) :
    Calls Tryd.prog 20 #[.slice A l.length cap] w fun e w' => e = .returned (cntV l) ∧ Below w.heap.size w w' := by
  have HS := Lib.hid hs
  have HU := Lib.hid hu
  have HL := Lib.hid hL
  clear hs hu hL
  go_enter Tryd.func20, Tryd.ntmps20
  go_wp2_with fail
  have hat : CtAt w [] (((w.alloc (.cells (cntA []) 36)).alloc (.cells (cntA []) 36)).alloc (.cells (ptrA (w.heap.size + 1)) 53)) := by
    have h1 := heap_alloc_new w (.cells (cntA []) 36)
    have h2 := heap_alloc_new (w.alloc (.cells (cntA []) 36)) (.cells (cntA []) 36)
    have h3 := heap_alloc_new ((w.alloc (.cells (cntA []) 36)).alloc (.cells (cntA []) 36)) (.cells (ptrA (w.heap.size + 1)) 53)
    have b1 : Below w.heap.size w (w.alloc (.cells (cntA []) 36)) := (Below.refl _ _).alloc (Nat.le_refl _) _
    have b2 : Below (w.alloc (.cells (cntA []) 36)).heap.size (w.alloc (.cells (cntA []) 36)) ((w.alloc (.cells (cntA []) 36)).alloc (.cells (cntA []) 36)) := (Below.refl _ _).alloc (Nat.le_refl _) _
    have b3 : Below ((w.alloc (.cells (cntA []) 36)).alloc (.cells (cntA []) 36)).heap.size ((w.alloc (.cells (cntA []) 36)).alloc (.cells (cntA []) 36)) (((w.alloc (.cells (cntA []) 36)).alloc (.cells (cntA []) 36)).alloc (.cells (ptrA (w.heap.size + 1)) 53)) := (Below.refl _ _).alloc (Nat.le_refl _) _
    have s1 : (w.alloc (.cells (cntA []) 36)).heap.size = w.heap.size + 1 := World.size_alloc _ _
    have s2 : ((w.alloc (.cells (cntA []) 36)).alloc (.cells (cntA []) 36)).heap.size = w.heap.size + 2 := by rw [World.size_alloc, s1]
    rw [s1] at h2 b2
    rw [s2] at h3 b3
    exact ⟨(b1.trans (b2.mono (by omega))).trans (b3.mono (by omega)), ((b3.block _ (by omega)).trans (b2.block _ (by omega))).trans h1, (b3.block _ (by omega)).trans h2, h3⟩
  have HAT := Lib.hid hat
  clear hat
  go_loopw [17] (fun i wr => ∃ j : Nat, j ≤ l.length ∧ i = .int .i64 (j : Int) ∧ Hid (CtAt w (l.take j) wr)) (fun i _ => l.length - (intOf i).toNat)
  case atStart => exact ⟨0, Nat.zero_le _, rfl, HAT⟩
  case round =>
    clear HAT
    obtain ⟨j, hj, rfl, HC⟩ := hrel
    have hj0 : (0 : Int) ≤ (j : Int) := by omega
    by_cases hlt : j < l.length
    · have hlt' : (j : Int) < (l.length : Int) := by omega
      obtain ⟨g, off, rfl, hc⟩ := (HS.out.below HC.out.low).at_ (k := j) (by rw [List.length_map]; exact hlt)
      have y := hc j _ (words_at hlt)
      have hx : U64 (l.getD j 0) := by
        rw [List.getD_eq_getElem?_getD, List.getElem?_eq_getElem hlt]
        exact HU.out _ (List.getElem_mem hlt)
      have HX := Lib.hid (fun W (h : Lay W) => asHeader_any (l.getD j 0) W h hx)
      rw [fld_s] at HX
      have HT := Lib.hid (countN_take hlt)
      have hle : ∀ k, countN (l.take j) k ≤ 1000 := fun k => by
        have := countN_le (l.take j) k
        rw [List.length_take] at this
        omega
      have HLE := Lib.hid hle
      have hss := @stOf_in (l.getD j 0)
      have HLW := Lib.hid (HL.out.below HC.out.low)
      obtain ⟨s, hs⟩ : ∃ s, stOf (l.getD j 0) = s := ⟨_, rfl⟩
      rw [show stS (l.getD j 0 % 8) = s from hs] at HX
      rw [hs] at HT hss
      clear hc hs hx hle
      generalize l.getD j 0 = x at *
      generalize fld x 3 32 = gg at *
      go_wp2_with fail
      refine (HX.out _ HLW.out).mono ?_
      rintro e w1 ⟨rfl, hn⟩
      have HC1 := Lib.hid (HC.out.grown (show Below wr.heap.size wr w1 by obtain ⟨k, rfl⟩ := hn; exact drewN_below _ k))
      clear hn HC HX HLW y
      obtain ⟨W, hW⟩ : ∃ W, countN (l.take j) = W := ⟨_, rfl⟩
      have hnum : ∀ k, IntKind.i64.wrap ((W k : Int) + 1) = (W k : Int) + 1 := fun k => by
        have := HLE.out k
        rw [hW] at this
        rw [IntKind.wrap_i64]
        omega
      have HN := Lib.hid hnum
      have hcn := HC1.out.cnt
      have hpt := HC1.out.ptr
      simp only [cntA, hW] at hcn
      simp only [ptrA] at hpt
      have HCN := Lib.hid hcn
      have p0 : w1.cell? ⟨w.heap.size + 1 + 1, 0, none⟩ = some (.pointer (some ⟨w.heap.size + 1, 0, none⟩)) := (cell_of_row _ _ _ _ _ _ hpt).trans rfl
      have p1 : w1.cell? ⟨w.heap.size + 1 + 1, 1, none⟩ = some (.pointer (some ⟨w.heap.size + 1, 1, none⟩)) := (cell_of_row _ _ _ _ _ _ hpt).trans rfl
      have p2 : w1.cell? ⟨w.heap.size + 1 + 1, 2, none⟩ = some (.pointer (some ⟨w.heap.size + 1, 2, none⟩)) := (cell_of_row _ _ _ _ _ _ hpt).trans rfl
      have p3 : w1.cell? ⟨w.heap.size + 1 + 1, 3, none⟩ = some (.pointer (some ⟨w.heap.size + 1, 3, none⟩)) := (cell_of_row _ _ _ _ _ _ hpt).trans rfl
      have p4 : w1.cell? ⟨w.heap.size + 1 + 1, 4, none⟩ = some (.pointer (some ⟨w.heap.size + 1, 4, none⟩)) := (cell_of_row _ _ _ _ _ _ hpt).trans rfl
      have c0 : w1.cell? ⟨w.heap.size + 1, 0, none⟩ = some (.int .i64 (W 0 : Int)) := (cell_of_row _ _ _ _ _ _ hcn).trans rfl
      have c1 : w1.cell? ⟨w.heap.size + 1, 1, none⟩ = some (.int .i64 (W 1 : Int)) := (cell_of_row _ _ _ _ _ _ hcn).trans rfl
      have c2 : w1.cell? ⟨w.heap.size + 1, 2, none⟩ = some (.int .i64 (W 2 : Int)) := (cell_of_row _ _ _ _ _ _ hcn).trans rfl
      have c3 : w1.cell? ⟨w.heap.size + 1, 3, none⟩ = some (.int .i64 (W 3 : Int)) := (cell_of_row _ _ _ _ _ _ hcn).trans rfl
      have c4 : w1.cell? ⟨w.heap.size + 1, 4, none⟩ = some (.int .i64 (W 4 : Int)) := (cell_of_row _ _ _ _ _ _ hcn).trans rfl
      rw [hW] at HT
      clear hcn hpt HLE
      have hs5 : s = 0 ∨ s = 1 ∨ s = 2 ∨ s = 3 ∨ s = 4 := by omega
      clear hss
      have HWW := Lib.hid hW
      clear hW
      have HLT := Lib.hid hlt
      have fin : ∀ (w3 : World) (c : Array Value), Put w1 w3 (w.heap.size + 1) 36 c → c = cntA (l.take (j + 1)) → Hid (CtAt w (l.take (j + 1)) w3) := fun w3 c hp e => Lib.hid (HC1.out.put (e ▸ hp))
      have FIN := Lib.hid fin
      clear fin
      have tk : ∀ k, (countN (l.take (j + 1)) k : Int) = (W k : Int) + if s = k then 1 else 0 := fun k => by
        have h := HT.out k
        split at h <;> rename_i hk
        · rw [if_pos hk]; omega
        · rw [if_neg hk]; omega
      have TK := Lib.hid tk
      clear tk HT
      rcases hs5 with rfl | rfl | rfl | rfl | rfl
      · have eN := HN.out 0
        go_wp2_with (refine wpList_store_fld rfl 3 (.tmp 32) (.tmp 31) rfl (w.heap.size + 1) 0 rfl .i64 ((W 0 : Int) + 1) rfl 36 _ HCN.out isz3 (show (0 : Nat) < 5 by omega) ?_; intro w3 hp; have HP3 := Lib.hid hp; clear hp)
        go_roundw
        case rel => exact ⟨j + 1, by have := HLT.out; omega, by go_num, FIN.out w3 _ HP3.out (by unfold cntA; rw [TK.out 0, TK.out 1, TK.out 2, TK.out 3, TK.out 4]; rfl)⟩
        case measure => have := HLT.out; simp [intOf]; omega
      · have eN := HN.out 1
        go_wp2_with (refine wpList_store_fld rfl 3 (.tmp 32) (.tmp 31) rfl (w.heap.size + 1) 1 rfl .i64 ((W 1 : Int) + 1) rfl 36 _ HCN.out isz3 (show (1 : Nat) < 5 by omega) ?_; intro w3 hp; have HP3 := Lib.hid hp; clear hp)
        go_roundw
        case rel => exact ⟨j + 1, by have := HLT.out; omega, by go_num, FIN.out w3 _ HP3.out (by unfold cntA; rw [TK.out 0, TK.out 1, TK.out 2, TK.out 3, TK.out 4]; rfl)⟩
        case measure => have := HLT.out; simp [intOf]; omega
      · have eN := HN.out 2
        go_wp2_with (refine wpList_store_fld rfl 3 (.tmp 32) (.tmp 31) rfl (w.heap.size + 1) 2 rfl .i64 ((W 2 : Int) + 1) rfl 36 _ HCN.out isz3 (show (2 : Nat) < 5 by omega) ?_; intro w3 hp; have HP3 := Lib.hid hp; clear hp)
        go_roundw
        case rel => exact ⟨j + 1, by have := HLT.out; omega, by go_num, FIN.out w3 _ HP3.out (by unfold cntA; rw [TK.out 0, TK.out 1, TK.out 2, TK.out 3, TK.out 4]; rfl)⟩
        case measure => have := HLT.out; simp [intOf]; omega
      · have eN := HN.out 3
        go_wp2_with (refine wpList_store_fld rfl 3 (.tmp 32) (.tmp 31) rfl (w.heap.size + 1) 3 rfl .i64 ((W 3 : Int) + 1) rfl 36 _ HCN.out isz3 (show (3 : Nat) < 5 by omega) ?_; intro w3 hp; have HP3 := Lib.hid hp; clear hp)
        go_roundw
        case rel => exact ⟨j + 1, by have := HLT.out; omega, by go_num, FIN.out w3 _ HP3.out (by unfold cntA; rw [TK.out 0, TK.out 1, TK.out 2, TK.out 3, TK.out 4]; rfl)⟩
        case measure => have := HLT.out; simp [intOf]; omega
      · have eN := HN.out 4
        go_wp2_with (refine wpList_store_fld rfl 3 (.tmp 32) (.tmp 31) rfl (w.heap.size + 1) 4 rfl .i64 ((W 4 : Int) + 1) rfl 36 _ HCN.out isz3 (show (4 : Nat) < 5 by omega) ?_; intro w3 hp; have HP3 := Lib.hid hp; clear hp)
        go_roundw
        case rel => exact ⟨j + 1, by have := HLT.out; omega, by go_num, FIN.out w3 _ HP3.out (by unfold cntA; rw [TK.out 0, TK.out 1, TK.out 2, TK.out 3, TK.out 4]; rfl)⟩
        case measure => have := HLT.out; simp [intOf]; omega
    · have hge : (l.length : Int) ≤ (j : Int) := by omega
      have HP := Lib.hid (show l.take j = l from List.take_of_length_le (by omega))
      rw [HP.out] at HC
      have HCC := Lib.hid HC.out.cnt
      have HRR := Lib.hid HC.out.res
      have HLO := Lib.hid HC.out.low
      go_wp2_with (first | (refine wpList_load_row rfl 36 (.tmp 3) rfl (w.heap.size + 1) rfl 36 _ (0, 0) _ HCC.out Tryd.underlying36 rfl isz36 ?_) | (refine wpList_store_put rfl 36 (.tmp 2) (.tmp 34) rfl w.heap.size rfl (cntA l) rfl 36 (cntA []) HRR.out isz36 rfl rfl ?_; intro w3 hp; have HP3 := Lib.hid hp; clear hp))
      exact bodyPost_ret (results_cell_row rfl _ _ w.heap.size 36 (cntA l) (0, 0) _ rfl HP3.out.at_ Tryd.underlying36 rfl isz36) rfl ⟨rfl, HP3.out.below HLO.out (Nat.le_refl _)⟩
end Go.Proofs.YtelehpegnjbcaaaDoor
