/-
  The law SegsAll walked: it answers true, and changes nothing that was there; and SegsSum over a list too long; conditions: the program's eight calls do as the plain side says, where what the program lays lies as laid.
-/
import Derived.Test.YtelehpegnjbcaaaDoorGE4
namespace Go.Proofs.YtelehpegnjbcaaaDoor
open Go.RowKit

/-- Two fields in a block of their own. -/
def S2F (w0 : World) (q : Nat) (f0 f1 : Int) (w : World) : Prop :=
  (w.cell? ⟨q, 0, none⟩ = some (.int .u8 f0) ∧ w.cell? ⟨q, 1, none⟩ = some (.int .u8 f1)) ∧ Hid (Below w0.heap.size w0 w)
section
variable {w0 w1 w2 : World} {q : Nat} {f0 f1 : Int}
theorem S2F.step (h : S2F w0 q f0 f1 w1) (hb : Below w1.heap.size w1 w2) : S2F w0 q f0 f1 w2 := by
  have k : ∀ (g i : Nat) (v : Value), w1.cell? ⟨g, i, none⟩ = some v → w2.cell? ⟨g, i, none⟩ = some v := fun g i v hc => (hb.cell (p := ⟨g, i, none⟩) (World.block_lt_of_cell? w1 _ hc)).trans hc
  obtain ⟨⟨h0, h1⟩, hh⟩ := h
  exact ⟨⟨k _ _ _ h0, k _ _ _ h1⟩, Lib.hid (hh.out.trans (hb.mono hh.out.size))⟩
theorem S2F.drew (h : S2F w0 q f0 f1 w1) : S2F w0 q f0 f1 w1.drew := h.step (Below.refl _ _).drew
theorem S2F.low (h : S2F w0 q f0 f1 w1) : Below w0.heap.size w0 w1 := h.2.out
theorem S2F.start (w : World) : S2F w w.heap.size f0 f1 (w.alloc (.cells #[.int .u8 f0, .int .u8 f1] 42)) :=
  ⟨⟨(cell_of_row _ _ _ _ _ _ (heap_alloc_new w _)).trans rfl, (cell_of_row _ _ _ _ _ _ (heap_alloc_new w _)).trans rfl⟩, Lib.hid ((Below.refl w.heap.size w).alloc (Nat.le_refl _) _)⟩
end
set_option maxRecDepth 100000 in
theorem neq27 (n f : Int) (w : World) : (binOp .neq 27 (.agg #[.int .u8 6, .int .i64 n, .int .i64 f]) (.agg #[.int .u8 9, .int .i64 n, .int .i64 f])).run Tryd.prog w = .ok (.bool true) w := by
  have hS : Tryd.prog.underlying 27 = some (.struct (Tryd.prog.fieldsOf 27)) := by kernel_rfl
  have hp : Tryd.prog.stoodInHeld 27 = false := by kernel_rfl
  have u3 := Tryd.underlying3
  have a3 := Tryd.isAgg3
  have z3 := Tryd.sizeOf3
  have u4 := Tryd.underlying25
  have a4 := Tryd.isAgg25
  have z4 := Tryd.sizeOf25
  rw [run_neq_struct, show (10000 : Nat) = 9999 + 1 from rfl, run_equalIn_agg w 9999 27 _ _ hS hp]
  simp only [Program.fieldsOf, Tryd.underlying27]
  clear hS hp
  go_simp
set_option maxRecDepth 100000 in
set_option maxHeartbeats 32000000 in
theorem lawAll {L : World → Prop} (H : SPrg L) (x n f0 f1 : Int) (w : World) (hL : L w) (hx : U8 x) (hn : I64 n) (h0 : U8 f0) (h1 : U8 f1) :
    Calls Tryd.prog 6 #[.int .u8 x, .int .i64 n, .agg #[.int .u8 f0, .int .u8 f1]] w fun e w' => e = .returned (.bool true) ∧ Below w.heap.size w w' := by
  have HL := Lib.hid (fun W (h : Below w.heap.size w W) => H.low w W hL h)
  have HN := Lib.hid hn
  have HXI := Lib.hid (show I64 x by unfold U8 at hx; exact ⟨by omega, by omega⟩)
  have HF0 := Lib.hid (show I64 f0 by unfold U8 at h0; exact ⟨by omega, by omega⟩)
  have HF1 := Lib.hid (show I64 f1 by unfold U8 at h1; exact ⟨by omega, by omega⟩)
  have HST := Lib.hid (@S2F.start f0 f1 w)
  have ex : IntKind.i64.wrap x = x := by unfold U8 at hx; rw [IntKind.wrap_i64]; omega
  have ef0 : IntKind.i64.wrap f0 = f0 := by unfold U8 at h0; rw [IntKind.wrap_i64]; omega
  have ef1 : IntKind.i64.wrap f1 = f1 := by unfold U8 at h1; rw [IntKind.wrap_i64]; omega
  obtain ⟨g, hg⟩ : ∃ g, x / 8 = g := ⟨_, rfl⟩
  obtain ⟨lo, hlo⟩ : ∃ z, 8 * g = z := ⟨_, rfl⟩
  obtain ⟨hi, hhi⟩ : ∃ z, 8 * g + 8 = z := ⟨_, rfl⟩
  unfold U8 at hx
  have hg0 : 0 ≤ g := by omega
  have hg31 : g < 32 := by omega
  have o1 : ofG x = g := by unfold ofG; rw [if_pos ⟨by omega, by omega⟩]; exact hg
  have o2 : fromG g = lo := by unfold fromG; rw [if_pos ⟨by omega, by omega⟩]; exact hlo
  have o3 : toG g = hi := by unfold toG; rw [if_pos ⟨by omega, by omega⟩]; exact hhi
  have h14 : ((n != g) = false) ∨ ((n != g) = true ∧ ¬ fromG n ≤ x) ∨ ((n != g) = true ∧ fromG n ≤ x ∧ ¬ x < toG n) := by
    by_cases e : n = g
    · exact .inl (by simp [e])
    · have e2 : (n != g) = true := by simp [e]
      by_cases e3 : fromG n ≤ x
      · refine .inr (.inr ⟨e2, e3, ?_⟩)
        unfold fromG at e3
        unfold toG
        split <;> rename_i hr
        · rw [if_pos hr] at e3
          omega
        · omega
      · exact .inr (.inl ⟨e2, e3⟩)
  have HO := Lib.hid (fun W (h : Below w.heap.size w W) => H.of x W (HL.out W h) HXI.out)
  have HSG := Lib.hid (fun W (h : Below w.heap.size w W) => H.slots g W (HL.out W h) ⟨by omega, by omega⟩)
  have HSN := Lib.hid (fun W (h : Below w.heap.size w W) => H.slots n W (HL.out W h) HN.out)
  have HSK := Lib.hid (fun (k : Nat) (hk : k < 32) W (h : Below w.heap.size w W) => H.slots (k : Int) W (HL.out W h) ⟨by omega, by omega⟩)
  rw [o1] at HO
  rw [o2, o3] at HSG
  obtain ⟨a, ha⟩ : ∃ z, fromG n = z := ⟨_, rfl⟩
  obtain ⟨b, hb⟩ : ∃ z, toG n = z := ⟨_, rfl⟩
  rw [ha] at HSN h14
  rw [hb] at HSN h14
  have y1 : ¬ x < lo := by omega
  have y2 : ¬ hi ≤ x := by omega
  have y3 : ¬ g < 0 := by omega
  obtain ⟨sm9, hs9⟩ : ∃ z, decide ((9 : Int) = 9 ∧ x = n ∧ f0 = f1) = z := ⟨_, rfl⟩
  obtain ⟨sm6, hs6⟩ : ∃ z, decide ((6 : Int) = 6 ∧ x = n ∧ f0 = f1) = z := ⟨_, rfl⟩
  have h16 : ((n == x) = true ∧ (f0 == f1) = true ∧ sm9 = true ∧ sm6 = true) ∨ ((n == x) = true ∧ (f0 == f1) = false ∧ sm9 = false ∧ sm6 = false) ∨ ((n == x) = false ∧ sm9 = false ∧ sm6 = false) := by
    rw [← hs9, ← hs6]
    by_cases e : n = x
    · subst e
      by_cases e2 : f0 = f1 <;> simp [e2]
    · have e' : ¬ x = n := fun h => e h.symm
      simp [e, e']
  have E9 := fun W : World => (eql27 9 9 x f0 n f1 W).trans (show _ = Result.ok (Value.bool sm9) W by rw [hs9])
  have E6 := fun W : World => (eql27 6 6 x f0 n f1 W).trans (show _ = Result.ok (Value.bool sm6) W by rw [hs6])
  have EN := fun W : World => neq27 n 0 W
  clear hs9 hs6
  have HW := Lib.hid (fun (u f : Int) W (h : Below w.heap.size w W) (hu : I64 u) (hf : I64 f) => H.word u f W (HL.out W h) hu hf)
  have HS := Lib.hid (fun (u f : Int) W (h : Below w.heap.size w W) (hu : I64 u) (hf : I64 f) => H.slot u f W (HL.out W h) hu hf)
  have HV := Lib.hid (fun W (h : Below w.heap.size w W) => lives_any H W (HL.out W h))
  have Z0 := Lib.hid (show I64 0 from ⟨by decide, by decide⟩)
  have H14 := Lib.hid h14
  have H16 := Lib.hid h16
  clear hL hn h0 h1 hx hg hlo hhi hg0 hg31 o1 o2 o3 ha hb h14 h16
  go_enter Tryd.func6, Tryd.ntmps6
  go_wp2_with fail
  go_loopw [7, 8] (fun at_ i wr => ∃ k : Nat, k ≤ 32 ∧ at_ = .int .i64 (8 * (k : Int)) ∧ i = .int .i64 (k : Int) ∧ Hid (S2F w w.heap.size f0 f1 wr)) (fun _ i _ => 32 - (intOf i).toNat)
  case atStart => exact ⟨0, by omega, rfl, rfl, HST⟩
  case round =>
    obtain ⟨k, hk, rfl, rfl, HR⟩ := hrel
    clear HST
    by_cases hlt : k < 32
    · have hlt' : (k : Int) < 32 := by omega
      have C1 := Lib.hid (HSK.out k hlt _ HR.out.low)
      rw [show fromG (k : Int) = 8 * (k : Int) by unfold fromG; rw [if_pos ⟨by omega, by omega⟩]] at C1
      rw [show toG (k : Int) = 8 * (k : Int) + 8 by unfold toG; rw [if_pos ⟨by omega, by omega⟩]] at C1
      have k1 : IntKind.i64.wrap (8 * (k : Int) + 8) = 8 * (k : Int) + 8 := by rw [IntKind.wrap_i64]; omega
      have k2 : (8 * (k : Int) != 8 * (k : Int)) = false := bne_self_eq_false _
      have k3 : (8 * (k : Int) + 8 != 8 * (k : Int) + 8) = false := bne_self_eq_false _
      go_wp2_with fail
      refine C1.out.mono ?_
      rintro e w1 ⟨rfl, hb1⟩
      have HR1 := Lib.hid (HR.out.step hb1)
      clear hb1 C1
      go_wp2_with fail
      go_roundw
      case rel => exact ⟨k + 1, by omega, by go_num, by go_num, HR1⟩
      case measure => simp [intOf]; omega
    · have hk32 : k = 32 := by omega
      subst hk32
      clear hk hlt
      go_wp2_with fail
      refine (HO.out _ HR.out.low).mono ?_
      rintro e w1 ⟨rfl, hb1⟩
      have HR1 := Lib.hid (HR.out.step hb1)
      clear hb1 HR HO
      go_wp2_with fail
      refine (HSG.out _ HR1.out.low).mono ?_
      rintro e w2 ⟨rfl, hb2⟩
      have HR2 := Lib.hid (HR1.out.step hb2)
      clear hb2 HR1 HSG
      go_wp2_with fail
      refine (HSN.out _ HR2.out.low).mono ?_
      rintro e w3 ⟨rfl, hb3⟩
      have HR3 := Lib.hid (HR2.out.step hb3)
      obtain ⟨⟨c0, c1⟩, _⟩ := HR3.out
      clear hb3 HR2 HSN
      rcases H14.out with p1 | ⟨p1, p2⟩ | ⟨p1, p2, p3⟩ <;> rcases H16.out with ⟨q1, q2, rfl, rfl⟩ | ⟨q1, q2, rfl, rfl⟩ | ⟨q1, rfl, rfl⟩
      all_goals clear H14 H16
      all_goals go_wp2_with fail
      all_goals
        go_region_held3 (fun w8 => (w8.cell? ⟨w.heap.size, 0, none⟩ = some (.int .u8 f0) ∧ w8.cell? ⟨w.heap.size, 1, none⟩ = some (.int .u8 f1)) ∧ Hid (Below w.heap.size w w8))
          (first | exact S2F.drew HR3.out | (refine S2F.step ?_ hb; assumption))
          (first
            | (go_at_call 14; refine (HS.out _ _ _ ?_ ?_ ?_).mono ?_; (refine S2F.low (q := w.heap.size) (f0 := f0) (f1 := f1) ?_; assumption); (first | exact HXI.out | exact HN.out); (first | exact HF0.out | exact HF1.out); rintro e w9 ⟨rfl, hb⟩))
      all_goals
        have HR4 := Lib.hid (show S2F w w.heap.size f0 f1 w9 by assumption)
        go_wp2_with fail
      all_goals
        go_region_held3 (fun w8 => (w8.cell? ⟨w.heap.size, 0, none⟩ = some (.int .u8 f0) ∧ w8.cell? ⟨w.heap.size, 1, none⟩ = some (.int .u8 f1)) ∧ Hid (Below w.heap.size w w8))
          (first | exact S2F.drew HR4.out | (refine S2F.step ?_ hb; assumption))
          (first
            | (go_at_call 13; refine (HW.out _ _ _ ?_ ?_ ?_).mono ?_; (refine S2F.low (q := w.heap.size) (f0 := f0) (f1 := f1) ?_; assumption); (first | exact HXI.out | exact HN.out); (first | exact HF0.out | exact HF1.out); rintro e wb ⟨rfl, hb⟩))
      all_goals
        have HR5 := Lib.hid (show S2F w w.heap.size f0 f1 wb by assumption)
        go_wp2_with fail
        refine (HW.out _ _ _ HR5.out.low HN.out Z0.out).mono ?_
        rintro e wc ⟨rfl, hbc⟩
        have HR6 := Lib.hid (HR5.out.step hbc)
        clear hbc
        go_wp2_with fail
        refine (HS.out _ _ _ HR6.out.low HN.out Z0.out).mono ?_
        rintro e wd ⟨rfl, hbd⟩
        have HR7 := Lib.hid (HR6.out.step hbd)
        clear hbd
        go_wp2_with fail
        refine (HV.out _ HR7.out.low).mono ?_
        rintro e we ⟨rfl, hbe⟩
        have HB8 := Lib.hid (HR7.out.low.trans (hbe.mono HR7.out.low.size))
        clear hbe
        go_wp2_with fail
        go_ret
        exact ⟨rfl, HB8.out⟩
set_option maxRecDepth 100000 in
set_option maxHeartbeats 4000000 in
theorem lawSum_long {L : World → Prop} (H : SPrg L) (A : Option Addr) (m cap : Nat) (w : World) (hL : L w) (hm : 200 < m) :
    Calls Tryd.prog 8 #[.slice A m cap] w fun e w' => e = .returned (.bool true) ∧ Below w.heap.size w w' := by
  have HC := Lib.hid (lives_any H _ hL)
  have kk : (200 : Int) < (m : Int) := by omega
  clear hL hm
  go_enter Tryd.func8, Tryd.ntmps8
  go_wp2_with fail
  refine HC.out.mono ?_
  rintro e w1 ⟨rfl, hb1⟩
  have HB1 := Lib.hid hb1
  clear hb1
  go_wp2_with fail
  go_ret
  exact ⟨rfl, HB1.out⟩
end Go.Proofs.YtelehpegnjbcaaaDoor
