/-
  The program's decode and Next of layer 3: the first command of bytes, the command at a place; conditions: the table of sizes reads as the program lays it; the bytes lie as it says.
-/
import Derived.Test.YtlgfdemggkiojaaDoorW1
namespace Go.Proofs.YtlgfdemggkiojaaDoor
open Go.RowKit

theorem isz3 : (Tryd.prog.info? 3).map (·.size) = some 1 := by kernel_rfl
theorem isz34 : (Tryd.prog.info? 34).map (·.size) = some 9 := by kernel_rfl
theorem isz38 : (Tryd.prog.info? 38).map (·.size) = some 9 := by kernel_rfl
theorem isz61 : (Tryd.prog.info? 61).map (·.size) = some 5 := by kernel_rfl
def zeroCmd : Obj := .cells #[.int .u8 0, .int .i64 0, .int .i64 0, .int .i64 0, .int .i64 0, .int .u8 0, .int .u8 0, .int .u64 0, .int .u64 0] 34
theorem kindOf_rng (n : Int) (h0 : 0 ≤ n) (h1 : n ≤ 255) : 0 ≤ kindOf n ∧ kindOf n ≤ 9 := by
  unfold kindOf
  repeat' split
  all_goals omega

set_option maxHeartbeats 1000000 in
theorem decode_short (g off cap : Nat) (b : List UInt8) (w : World) (hl : Lay w) (hb : Bys w g off b) (h0 : 0 < b.length) (hs : b.length < sizeOf' (kindOf (byt b 0))) :
    Calls Tryd.prog 25 #[.slice (some ⟨g, off, none⟩) b.length cap] w fun e w' => e = .returned (dec b).v ∧ Below w.heap.size w w' := by
  have hd : dec b = noneC b.length := by unfold dec; rw [if_pos hs]
  have hbb : Below w.heap.size w (w.alloc zeroCmd) := (Below.refl _ _).alloc (Nat.le_refl _) _
  have hc0 := hb.below hbb 0 h0
  have hl1 := hl.below hbb
  obtain ⟨n, hn⟩ : ∃ n, byt b 0 = n := ⟨_, rfl⟩
  have hbd := byt_bd b 0
  rw [hn] at hc0 hs hbd
  have hk := kindOf_rng n hbd.1 hbd.2
  have hc1 := hl1.at_ hk.1 hk.2
  rw [hd]
  have hko := fun w => kindOf_any n w hbd.1 hbd.2
  generalize kindOf n = k at *
  have hs' : (b.length : Int) < (sizeOf' k : Int) := by omega
  have hgt : decide ((b.length : Int) < (sizeOf' k : Int)) = true := by simpa using hs
  generalize (sizeOf' k : Int) = S at *
  simp only [Nat.add_zero] at hc0
  unfold zeroCmd at *
  clear hd hl1 hl hb hs hn
  simp only [Cm.v, noneC]
  go_enter Tryd.func25, Tryd.ntmps25
  go_wp2_with (go_at_call 34; refine (hko _).mono ?_; rintro e w' ⟨rfl, rfl⟩)
  exact bodyPost_ret (v := .agg #[.int .u8 0, .int .i64 0, .int .i64 b.length, .int .i64 0, .int .i64 0, .int .u8 0, .int .u8 0, .int .u64 0, .int .u64 0]) (by simp [results, Tryd.results25, go_sem]) rfl ⟨rfl, (Below.refl _ _).alloc (Nat.le_refl _) _⟩
/-- A block of a command. -/
def Box9 (w : World) (g : Nat) (t : TypeId) (v0 v1 v2 v3 v4 v5 v6 v7 v8 : Value) : Prop := w.heap[g]? = some (.cells #[v0, v1, v2, v3, v4, v5, v6, v7, v8] t (0, 0))
section
variable {w : World} {g : Nat} {t : TypeId} {v0 v1 v2 v3 v4 v5 v6 v7 v8 : Value}
theorem Box9.lt (h : Box9 w g t v0 v1 v2 v3 v4 v5 v6 v7 v8) : g < w.heap.size := (Array.getElem?_eq_some_iff.1 h).1
theorem Box9.below {B : Nat} {w' : World} (h : Box9 w g t v0 v1 v2 v3 v4 v5 v6 v7 v8) (hb : Below B w w') (hg : g < B) : Box9 w' g t v0 v1 v2 v3 v4 v5 v6 v7 v8 := (hb.block g hg).trans h
theorem Box9.new (w : World) (t : TypeId) (v0 v1 v2 v3 v4 v5 v6 v7 v8 : Value) : Box9 (w.alloc (.cells #[v0, v1, v2, v3, v4, v5, v6, v7, v8] t)) w.heap.size t v0 v1 v2 v3 v4 v5 v6 v7 v8 := heap_alloc_new w _
theorem Box9.cells (h : Box9 w g t v0 v1 v2 v3 v4 v5 v6 v7 v8) : w.cell? ⟨g, 0, none⟩ = some v0 ∧ w.cell? ⟨g, 1, none⟩ = some v1 ∧ w.cell? ⟨g, 2, none⟩ = some v2 ∧ w.cell? ⟨g, 3, none⟩ = some v3 ∧ w.cell? ⟨g, 4, none⟩ = some v4 ∧
    w.cell? ⟨g, 5, none⟩ = some v5 ∧ w.cell? ⟨g, 6, none⟩ = some v6 ∧ w.cell? ⟨g, 7, none⟩ = some v7 ∧ w.cell? ⟨g, 8, none⟩ = some v8 ∧ ∀ o, w.frozen? ⟨g, o, none⟩ = false := by
  unfold Box9 at h
  refine ⟨?_, ?_, ?_, ?_, ?_, ?_, ?_, ?_, ?_, fun o => ?_⟩ <;> simp [World.cell?, World.frozen?, h]
end
theorem inB_v (c : Cm) (w : World) : Calls Tryd.prog 29 #[c.v] w fun e w' => e = .returned (.bool (inB c)) ∧ Below w.heap.size w w' := inB_any _ _ _ _ _ _ _ _ _ w
theorem readC_form (k : Int) (b : List UInt8) : ∃ a t s o ky v, readC k b = ⟨k, 0, 0, a, t, s, o, ky, v⟩ := by
  unfold readC bareC
  repeat' split
  all_goals exact ⟨_, _, _, _, _, _, rfl⟩
set_option maxHeartbeats 4000000 in
theorem decode_long (g off cap : Nat) (b : List UInt8) (w : World) (hl : Lay w) (hb : Bys w g off b) (h0 : 0 < b.length) (hs : sizeOf' (kindOf (byt b 0)) ≤ b.length) :
    Calls Tryd.prog 25 #[.slice (some ⟨g, off, none⟩) b.length cap] w fun e w' => e = .returned (dec b).v ∧ Below w.heap.size w w' := by
  have hd : dec b = if inB (readC (kindOf (byt b 0)) b) = true then (readC (kindOf (byt b 0)) b).till (sizeOf' (kindOf (byt b 0))) else noneC (sizeOf' (kindOf (byt b 0))) := by unfold dec; rw [if_neg (by omega)]
  have hbb : Below w.heap.size w (w.alloc zeroCmd) := (Below.refl _ _).alloc (Nat.le_refl _) _
  have hb1 := hb.below hbb
  have hc0 := hb1 0 h0
  have hl1 := hl.below hbb
  obtain ⟨n, hn⟩ : ∃ n, byt b 0 = n := ⟨_, rfl⟩
  have hbd := byt_bd b 0
  rw [hn] at hc0 hs hbd hd
  have hk := kindOf_rng n hbd.1 hbd.2
  have hc1 := hl1.at_ hk.1 hk.2
  rw [hd]
  have hko := fun w => kindOf_any n w hbd.1 hbd.2
  generalize kindOf n = k at *
  have hgt : decide ((b.length : Int) < (sizeOf' k : Int)) = false := by simpa using hs
  have hrd := read_any k g off cap b (w.alloc zeroCmd) hk.1 hk.2 hs hb1
  obtain ⟨a, t, s, o, ky, v, hr⟩ := readC_form k b
  rw [hr] at hrd ⊢
  generalize hS : (sizeOf' k : Int) = S at *
  simp only [Nat.add_zero] at hc0
  have HS := Lib.hid hS
  have hib := fun w => inB_any k 0 0 a t s o ky v w
  generalize hB : inB ⟨k, 0, 0, a, t, s, o, ky, v⟩ = B at hib ⊢
  have HB := Lib.hid hB
  unfold zeroCmd at *
  simp only [Cm.v] at hrd
  clear hd hl1 hl hb hb1 hs hn hS hr hB hbb
  go_enter Tryd.func25, Tryd.ntmps25
  go_wp2_with fail
  refine (hko _).mono ?_
  rintro e w' ⟨rfl, rfl⟩
  clear hko
  go_wp2_with fail
  have bx0 := Box9.new w 34 (.int .u8 0) (.int .i64 0) (.int .i64 0) (.int .i64 0) (.int .i64 0) (.int .u8 0) (.int .u8 0) (.int .u64 0) (.int .u64 0)
  refine hrd.mono ?_
  rintro e w1 ⟨rfl, hb1⟩
  have BX1 := Lib.hid (bx0.below hb1 (by simp))
  have HB1 := Lib.hid (((Below.refl _ w).alloc (Nat.le_refl _) _).trans (hb1.mono (by simp)))
  clear hb1 hrd bx0
  go_wp2_with fail
  have bx2 := Box9.new w1 34 (.int .u8 k) (.int .i64 0) (.int .i64 0) (.int .i64 a) (.int .i64 t) (.int .u8 s) (.int .u8 o) (.int .u64 ky) (.int .u64 v)
  have BX2 := Lib.hid (BX1.out.below ((Below.refl _ w1).alloc (Nat.le_refl _) (.cells #[.int .u8 k, .int .i64 0, .int .i64 0, .int .i64 a, .int .i64 t, .int .u8 s, .int .u8 o, .int .u64 ky, .int .u64 v] 34)) BX1.out.lt)
  have HB2 := Lib.hid (HB1.out.alloc HB1.out.size (.cells #[.int .u8 k, .int .i64 0, .int .i64 0, .int .i64 a, .int .i64 t, .int .u8 s, .int .u8 o, .int .u64 ky, .int .u64 v] 34))
  refine (hib _).mono ?_
  rintro e w2 ⟨rfl, hb2⟩
  have BQ := Lib.hid (bx2.below hb2 bx2.lt)
  have BP := Lib.hid (BX2.out.below hb2 BX2.out.lt)
  have hlt := BX1.out.lt
  have HB3 := Lib.hid (HB2.out.trans (hb2.mono HB2.out.size))
  have hwp : w.heap.size ≤ w.heap.size := Nat.le_refl _
  clear hb2 hib bx2 BX1 BX2 HB1 HB2 hc0 hc1
  revert BQ BP hlt hwp
  generalize w1.heap.size = q
  generalize hp : w.heap.size = p at *
  intro BQ BP hlt hwp
  have hne : p ≠ q := by omega
  cases B with
  | true =>
    go_wp2_with (first
      | (refine wpList_store_fld rfl 3 (.tmp 28) (.tmp 27) rfl q 2 rfl .i64 S rfl 34 _ BQ.out isz3 (by simp) ?_; intro w3 hp3; have bq := hp3.at_; simp only [List.setIfInBounds_toArray, List.set_cons_succ, List.set_cons_zero] at bq; have BQ3 := Lib.hid bq; clear bq; have BP3 := Lib.hid ((hp3.far p hne).trans BP.out); have HB4 := Lib.hid (hp3.below HB3.out (by omega)); clear hp3)
      | (refine wpList_load_row rfl 34 (.tmp 5) rfl q rfl 34 _ (0, 0) _ BQ3.out Tryd.underlying34 rfl isz34 ?_)
      | (refine wpList_store_put rfl 34 (.tmp 2) (.tmp 29) rfl p rfl _ rfl 34 _ BP3.out isz34 rfl rfl ?_; intro w4 hp4; have BP4 := Lib.hid hp4.at_; have HB5 := Lib.hid (hp4.below HB4.out hwp); clear hp4))
    exact bodyPost_ret (results_cell_row rfl _ _ p 34 _ (0, 0) _ rfl BP4.out Tryd.underlying34 rfl isz34) rfl ⟨rfl, HB5.out⟩
  | false =>
    go_wp2_with (first
      | (refine wpList_store_put rfl 34 (.tmp 5) (.tmp 26) rfl q rfl _ rfl 34 _ BQ.out isz34 rfl rfl ?_; intro w5 hp5; have BQ5 := Lib.hid hp5.at_; have BP5 := Lib.hid ((hp5.far p hne).trans BP.out); have HB6 := Lib.hid (hp5.below HB3.out (by omega)); clear hp5)
      | (refine wpList_store_fld rfl 3 (.tmp 28) (.tmp 27) rfl q 2 rfl .i64 S rfl 34 _ BQ5.out isz3 (by simp) ?_; intro w3 hp3; have bq := hp3.at_; simp only [List.setIfInBounds_toArray, List.set_cons_succ, List.set_cons_zero] at bq; have BQ3 := Lib.hid bq; clear bq; have BP3 := Lib.hid ((hp3.far p hne).trans BP5.out); have HB4 := Lib.hid (hp3.below HB6.out (by omega)); clear hp3)
      | (refine wpList_load_row rfl 34 (.tmp 5) rfl q rfl 34 _ (0, 0) _ BQ3.out Tryd.underlying34 rfl isz34 ?_)
      | (refine wpList_store_put rfl 34 (.tmp 2) (.tmp 29) rfl p rfl _ rfl 34 _ BP3.out isz34 rfl rfl ?_; intro w4 hp4; have BP4 := Lib.hid hp4.at_; have HB5 := Lib.hid (hp4.below HB4.out hwp); clear hp4))
    exact bodyPost_ret (results_cell_row rfl _ _ p 34 _ (0, 0) _ rfl BP4.out Tryd.underlying34 rfl isz34) rfl ⟨rfl, HB5.out⟩
end Go.Proofs.YtlgfdemggkiojaaDoor
