/-
  The law SegsSum walked: it answers true, and changes nothing that was there; conditions: the program's eight calls do as the plain side says, where what the program lays lies as laid.
-/
import Derived.Test.YtelehpegnjbcaaaDoorGU1
import Derived.Deep.RegionHeld3
namespace Go.Proofs.YtelehpegnjbcaaaDoor
open Go.RowKit

theorem isz3 : (Tryd.prog.info? 3).map (·.size) = some 1 := by kernel_rfl
set_option maxRecDepth 100000 in
theorem neq36 (a b c d e : Int) (w : World) : (binOp .neq 36 (.agg #[.int .i64 a, .int .i64 b, .int .i64 c, .int .i64 d, .int .i64 e]) (.agg #[.int .i64 a, .int .i64 b, .int .i64 c, .int .i64 d, .int .i64 e])).run Tryd.prog w = .ok (.bool false) w := by
  have hS : Tryd.prog.underlying 36 = some (.struct (Tryd.prog.fieldsOf 36)) := by kernel_rfl
  have hp : Tryd.prog.stoodInHeld 36 = false := by kernel_rfl
  have u3 := Tryd.underlying3
  have a3 := Tryd.isAgg3
  have z3 := Tryd.sizeOf3
  rw [run_neq_struct, show (10000 : Nat) = 9999 + 1 from rfl, run_equalIn_agg w 9999 36 _ _ hS hp]
  simp only [Program.fieldsOf, Tryd.underlying36]
  clear hS hp
  go_simp
theorem own_ne {w : World} {base : Nat} {e t : TypeId} {size : Nat} {v : Value} {n q : Nat} {xs : List Value} {c : Array Value} (h : w.ownsRow base e size v n xs) (hq : w.heap[q]? = some (.cells c t (0, 0))) (ht : t ≠ e) : ∀ g, v.ownBlock = some g → g ≠ q := by
  intro g hg hgq
  subst hgq
  rcases h.2 with ⟨rfl, _⟩ | ⟨g', cap, cur, rfl, _, hh, _⟩
  · cases hg
  · have e1 : g' = g := by simpa [Value.ownBlock] using hg
    subst e1
    rw [hq] at hh
    injection hh with hh
    injection hh with _ hh _
    exact ht hh
theorem wrap_small {n : Int} (h0 : 0 ≤ n) (h1 : n ≤ 1000) : IntKind.i64.wrap n = n := by
  rw [IntKind.wrap_i64]
  omega
/-- What stands between two rounds: the headers so far. -/
structure SAt (w0 : World) (hs : List Int) (v : Value) (w : World) : Prop where
  own : w.ownsRow w0.heap.size 31 1 v hs.length (hs.map uV)
  low : Below w0.heap.size w0 w
/-- Two counts in blocks of their own, and the headers so far. -/
def S10 (w0 : World) (q q8 : Nat) (m0 m1 m2 m3 m4 : Int) (hs : List Int) (v : Value) (w : World) : Prop :=
  (w.cell? ⟨q, 0, none⟩ = some (.int .i64 m0) ∧ w.cell? ⟨q, 1, none⟩ = some (.int .i64 m1) ∧ w.cell? ⟨q, 2, none⟩ = some (.int .i64 m2) ∧ w.cell? ⟨q, 3, none⟩ = some (.int .i64 m3) ∧ w.cell? ⟨q, 4, none⟩ = some (.int .i64 m4) ∧ w.cell? ⟨q8, 0, none⟩ = some (.int .i64 m0) ∧ w.cell? ⟨q8, 1, none⟩ = some (.int .i64 m1) ∧ w.cell? ⟨q8, 2, none⟩ = some (.int .i64 m2) ∧ w.cell? ⟨q8, 3, none⟩ = some (.int .i64 m3) ∧ w.cell? ⟨q8, 4, none⟩ = some (.int .i64 m4)) ∧ Hid (SAt w0 hs v w)
section
variable {w0 w1 w2 : World} {q q8 : Nat} {m0 m1 m2 m3 m4 : Int} {hs : List Int} {v : Value}
theorem S10.step (h : S10 w0 q q8 m0 m1 m2 m3 m4 hs v w1) (hb : Below w1.heap.size w1 w2) : S10 w0 q q8 m0 m1 m2 m3 m4 hs v w2 := by
  have k : ∀ (g i : Nat) (v : Value), w1.cell? ⟨g, i, none⟩ = some v → w2.cell? ⟨g, i, none⟩ = some v := fun g i v hc => (hb.cell (p := ⟨g, i, none⟩) (World.block_lt_of_cell? w1 _ hc)).trans hc
  obtain ⟨⟨h0, h1, h2, h3, h4, h5, h6, h7, h8, h9⟩, hh⟩ := h
  exact ⟨⟨k _ _ _ h0, k _ _ _ h1, k _ _ _ h2, k _ _ _ h3, k _ _ _ h4, k _ _ _ h5, k _ _ _ h6, k _ _ _ h7, k _ _ _ h8, k _ _ _ h9⟩, Lib.hid ⟨own_low hh.out.own hb, hh.out.low.trans (hb.mono hh.out.low.size)⟩⟩
theorem S10.drew (h : S10 w0 q q8 m0 m1 m2 m3 m4 hs v w1) : S10 w0 q q8 m0 m1 m2 m3 m4 hs v w1.drew := h.step (Below.refl _ _).drew
theorem S10.start (h0 : w1.heap[q]? = some (.cells #[.int .i64 m0, .int .i64 m1, .int .i64 m2, .int .i64 m3, .int .i64 m4] 36 (0, 0))) (h6 : w1.heap[q8]? = some (.cells #[.int .i64 m0, .int .i64 m1, .int .i64 m2, .int .i64 m3, .int .i64 m4] 36 (0, 0))) (hb : SAt w0 hs v w1) : S10 w0 q q8 m0 m1 m2 m3 m4 hs v w1 :=
  ⟨⟨(cell_of_row _ _ _ _ _ _ h0).trans rfl, (cell_of_row _ _ _ _ _ _ h0).trans rfl, (cell_of_row _ _ _ _ _ _ h0).trans rfl, (cell_of_row _ _ _ _ _ _ h0).trans rfl, (cell_of_row _ _ _ _ _ _ h0).trans rfl, (cell_of_row _ _ _ _ _ _ h6).trans rfl, (cell_of_row _ _ _ _ _ _ h6).trans rfl, (cell_of_row _ _ _ _ _ _ h6).trans rfl, (cell_of_row _ _ _ _ _ _ h6).trans rfl, (cell_of_row _ _ _ _ _ _ h6).trans rfl⟩, Lib.hid hb⟩
theorem S10.low (h : S10 w0 q q8 m0 m1 m2 m3 m4 hs v w1) : Below w0.heap.size w0 w1 := h.2.out.low
end
theorem cnt_new (hs : List Int) (s k : Int) (h0 : 0 ≤ s) (h4 : s ≤ 4) (j : Int) : (countN (hs ++ [s + 8 * k]) j : Int) = (countN hs j : Int) + if s = j then 1 else 0 := by
  rw [countN_snoc, stOf_header h0 h4]
  split <;> simp
set_option maxRecDepth 100000 in
set_option maxHeartbeats 32000000 in
theorem lawSum {L : World → Prop} (H : SPrg L) (A : Option Addr) (cap : Nat) (l : List Int) (w : World) (hL : L w) (hs : Row w A (l.map cV)) (hu : ∀ x ∈ l, U8 x) (hl : l.length ≤ 200) :
    Calls Tryd.prog 8 #[.slice A l.length cap] w fun e w' => e = .returned (.bool true) ∧ Below w.heap.size w w' := by
  obtain ⟨i0, hi, hz0, hz1, hz2⟩ := info_parts Tryd_infoU
  have HL := Lib.hid (fun W (h : Below w.heap.size w W) => H.low w W hL h)
  have HB := Lib.hid (Below.refl w.heap.size w)
  have HS := Lib.hid hs
  have HU := Lib.hid hu
  clear hL hs hu
  go_enter Tryd.func8, Tryd.ntmps8
  go_wp2_with fail
  go_loopw [3, 4, 5] (fun v a i wr => ∃ (k : Nat) (hs : List Int), k ≤ l.length ∧ i = .int .i64 (k : Int) ∧ a = .int .i64 ((countN hs 3 : Int) + (countN hs 4 : Int)) ∧ hs.length = k ∧ Hid (∀ x ∈ hs, U64 x) ∧ Hid (SAt w hs v wr)) (fun _ _ i _ => l.length - (intOf i).toNat)
  case atStart => exact ⟨0, [], Nat.zero_le _, rfl, rfl, rfl, Lib.hid (fun x h => by cases h), Lib.hid ⟨World.ownsRow_nil _ _ _ _, HB.out⟩⟩
  case round =>
    obtain ⟨k, hs, hk, rfl, rfl, hlen, HUU, HR⟩ := hrel
    have hk0 : (0 : Int) ≤ (k : Int) := by omega
    obtain ⟨B, cb, rfl, q1, q2, _⟩ := own_slice HR.out.own
    have HQ1 := Lib.hid q1
    have HQ2 := Lib.hid q2
    clear q1 q2
    by_cases hlt : k < l.length
    · have hlt' : (k : Int) < (l.length : Int) := by omega
      obtain ⟨g, off, rfl, hc⟩ := (HS.out.below (HR.out.low.mono (Nat.le_refl _))).at_ (k := k) (by rw [List.length_map]; exact hlt)
      have y := hc k _ (bytes_at hlt)
      have hb : U8 (l.getD k 0) := by
        rw [List.getD_eq_getElem?_getD, List.getElem?_eq_getElem hlt]
        exact HU.out _ (List.getElem_mem hlt)
      obtain ⟨x, hx⟩ : ∃ x, l.getD k 0 = x := ⟨_, rfl⟩
      rw [hx] at y hb
      unfold U8 at hb
      obtain ⟨s, hsm⟩ : ∃ s, x % 5 = s := ⟨_, rfl⟩
      have s0 : 0 ≤ s := by omega
      have s4 : s ≤ 4 := by omega
      have e1 : x.tmod 5 = s := by rw [Int.tmod_eq_emod_of_nonneg hb.1]; exact hsm
      have e2 : IntKind.u8.wrap s = s := by rw [IntKind.wrap_u8]; omega
      have e3 : IntKind.u32.wrap (k : Int) = (k : Int) := by rw [IntKind.wrap_u32]; omega
      have hkU : U32 (k : Int) := ⟨by omega, by omega⟩
      have HH := Lib.hid (fun W (h : Below w.heap.size w W) => header_any s (k : Int) W (H.lay _ (HL.out W h)) s0 ⟨by omega, by omega⟩)
      rw [headerW_s s0 s4 hkU] at HH
      have hyU : U64 (s + 8 * (k : Int)) := by unfold U64; omega
      have HN := Lib.hid (cnt_new hs s (k : Int) s0 s4)
      have HALL := Lib.hid (countN_all (hs ++ [s + 8 * (k : Int)]))
      have HUN := Lib.hid (show ∀ x ∈ hs ++ [s + 8 * (k : Int)], U64 x from fun x hx => by
        rcases List.mem_append.1 hx with hx | hx
        · exact HUU.out x hx
        · rw [List.mem_singleton.1 hx]; exact hyU)
      have hss : s = 0 ∨ s = 1 ∨ s = 2 ∨ s = 3 ∨ s = 4 := by omega
      have hb5 : ∀ j : Int, (countN hs j : Int) ≤ 200 := fun j => by have := countN_le hs j; omega
      have HB5 := Lib.hid hb5
      have HLEN := Lib.hid hlen
      have hlen2 : (hs ++ [s + 8 * (k : Int)]).length = k + 1 := by rw [List.length_append, hlen]; rfl
      have HLEN2 := Lib.hid hlen2
      have C1 := Lib.hid (H.count B cb hs _ (HL.out _ HR.out.low) (row_of_own HR.out.own) HUU.out HQ1.out HQ2.out (by omega))
      clear hc hx hsm hb hkU hyU hb5 hlen hlen2
      go_wp2_with fail
      refine C1.out.mono ?_
      rintro e w1 ⟨rfl, hb1⟩
      simp only [cntV]
      have HO1 := Lib.hid (own_low HR.out.own hb1)
      have HB1 := Lib.hid (HR.out.low.trans (hb1.mono HR.out.low.size))
      clear hb1 C1
      obtain ⟨n0, d0⟩ : ∃ n, (countN hs 0 : Int) = n := ⟨_, rfl⟩
      obtain ⟨n1, d1⟩ : ∃ n, (countN hs 1 : Int) = n := ⟨_, rfl⟩
      obtain ⟨n2, d2⟩ : ∃ n, (countN hs 2 : Int) = n := ⟨_, rfl⟩
      obtain ⟨n3, d3⟩ : ∃ n, (countN hs 3 : Int) = n := ⟨_, rfl⟩
      obtain ⟨n4, d4⟩ : ∃ n, (countN hs 4 : Int) = n := ⟨_, rfl⟩
      have hd : (0 ≤ n0 ∧ n0 ≤ 200) ∧ (0 ≤ n1 ∧ n1 ≤ 200) ∧ (0 ≤ n2 ∧ n2 ≤ 200) ∧ (0 ≤ n3 ∧ n3 ≤ 200) ∧ (0 ≤ n4 ∧ n4 ≤ 200) := ⟨⟨by omega, by have := HB5.out 0; omega⟩, ⟨by omega, by have := HB5.out 1; omega⟩, ⟨by omega, by have := HB5.out 2; omega⟩, ⟨by omega, by have := HB5.out 3; omega⟩, ⟨by omega, by have := HB5.out 4; omega⟩⟩
      rw [d0, d1, d2, d3, d4]
      have HD := Lib.hid hd
      have M := fun j : Int => HN.out j
      have M0 := M 0
      rw [d0] at M0
      have M1 := M 1
      rw [d1] at M1
      have M2 := M 2
      rw [d2] at M2
      have M3 := M 3
      rw [d3] at M3
      have M4 := M 4
      rw [d4] at M4
      have HNN := Lib.hid (⟨M0, M1, M2, M3, M4⟩ : _ ∧ _ ∧ _ ∧ _ ∧ _)
      clear M M0 d0 M1 d1 M2 d2 M3 d3 M4 d4 hd
      have HQA := Lib.hid (heap_alloc_new w1 (.cells #[.int .i64 n0, .int .i64 n1, .int .i64 n2, .int .i64 n3, .int .i64 n4] 36))
      have HXA := Lib.hid (show Below w1.heap.size w1 (w1.alloc (.cells #[.int .i64 n0, .int .i64 n1, .int .i64 n2, .int .i64 n3, .int .i64 n4] 36)) from (Below.refl _ _).alloc (Nat.le_refl _) _)
      have HBA := Lib.hid (HB1.out.trans (HXA.out.mono HB1.out.size))
      have HOA := Lib.hid (own_low HO1.out HXA.out)
      clear HXA HO1
      go_wp2_with fail
      refine (HH.out _ HBA.out).mono ?_
      rintro e w2 ⟨rfl, hn2⟩
      have hb2 : Below (w1.alloc (.cells #[.int .i64 n0, .int .i64 n1, .int .i64 n2, .int .i64 n3, .int .i64 n4] 36)).heap.size (w1.alloc (.cells #[.int .i64 n0, .int .i64 n1, .int .i64 n2, .int .i64 n3, .int .i64 n4] 36)) w2 := by obtain ⟨j, rfl⟩ := hn2; exact drewN_below _ j
      have HQB := Lib.hid ((hb2.block _ (Array.getElem?_eq_some_iff.1 HQA.out).1).trans HQA.out)
      have HBB := Lib.hid (HBA.out.trans (hb2.mono HBA.out.size))
      have HOB := Lib.hid (own_low HOA.out hb2)
      have HXN := Lib.hid (show Below w2.heap.size w2 (w2.alloc (.cells #[.int .u64 (s + 8 * (k : Int))] 31)) from (Below.refl _ _).alloc (Nat.le_refl _) _)
      have HBX := Lib.hid (HBB.out.trans (HXN.out.mono HBB.out.size))
      have HOX := Lib.hid (own_low HOB.out HXN.out)
      have HQX := Lib.hid ((HXN.out.block _ (Array.getElem?_eq_some_iff.1 HQB.out).1).trans HQB.out)
      have HNX := Lib.hid (own_ne HOX.out HQX.out (by decide))
      have HQW := Lib.hid (show w.heap.size ≤ w1.heap.size from HB1.out.size)
      obtain ⟨hz, hhz⟩ : ∃ z, hs ++ [s + 8 * (k : Int)] = z := ⟨_, rfl⟩
      have HL1 := Lib.hid (show hs.length + 1 = hz.length by rw [← hhz, List.length_append]; rfl)
      have HL2 := Lib.hid (show hs.map uV ++ [uV (s + 8 * (k : Int))] = hz.map uV by rw [← hhz, List.map_append]; rfl)
      rw [hhz] at HNN HALL HUN HLEN2
      obtain ⟨T, hT⟩ : ∃ t, n3 + n4 = t := ⟨_, rfl⟩
      rw [hT]
      have HT := Lib.hid hT
      clear HXN HQB HBB HOB HQA HBA HOA hn2 hb2 HH HR HN hhz hT HB1
      revert HQX HNX HQW
      generalize w1.heap.size = q
      intro HQX HNX HQW
      go_wp2_with (at_builtin; go_loud (refine wpList_append_own _ rfl (.tmp 26) (.tmp 31) _ rfl w.heap.size 31 i0 _ 1 8 Tryd.underlying34 hi hz0 hz1 hz2 rfl (by decide) _ hs.length (hs.map uV) rfl HOX.out ⟨w2.heap.size, 0, Option.none⟩ 1 1 [uV (s + 8 * (k : Int))] rfl rfl (cells_new w2 31 [uV (s + 8 * (k : Int))]) (fun u hu => by rw [List.mem_singleton.1 hu]; rfl) (by have := HLEN.out; unfold maxLen; omega) (by have := HLEN.out; omega) HBX.out.size ?_; intro v' w3 hown' hgrow _; rw [HL1.out, HL2.out] at hown'; obtain ⟨B3, cb3, rfl, q3, q4, _⟩ := own_slice hown'; have HO3 := Lib.hid hown'; have HG3 := Lib.hid (HBX.out.grown hgrow HBX.out.size (fun q hq => (HOX.out.lt q hq).1)); have HQ3 := Lib.hid ((hgrow.block _ (Array.getElem?_eq_some_iff.1 HQX.out).1 (fun e => HNX.out _ e.symm rfl)).trans HQX.out); have C2 := Lib.hid (H.count B3 cb3 hz w3 (HL.out _ HG3.out) (row_of_own HO3.out) HUN.out q3 q4 (by have := HLEN2.out; omega)); clear hown' hgrow q3 q4))
      refine C2.out.mono ?_
      rintro e w4 ⟨rfl, hb4⟩
      simp only [cntV]
      have HO4 := Lib.hid (own_low HO3.out hb4)
      have HG4 := Lib.hid (HG3.out.trans (hb4.mono HG3.out.size))
      have HQ4 := Lib.hid ((hb4.block _ (Array.getElem?_eq_some_iff.1 HQ3.out).1).trans HQ3.out)
      clear hb4 C2 HO3 HG3 HQ3 HBX HOX HQX HNX
      obtain ⟨m0, r0⟩ : ∃ m, (countN hz 0 : Int) = m := ⟨_, rfl⟩
      obtain ⟨m1, r1⟩ : ∃ m, (countN hz 1 : Int) = m := ⟨_, rfl⟩
      obtain ⟨m2, r2⟩ : ∃ m, (countN hz 2 : Int) = m := ⟨_, rfl⟩
      obtain ⟨m3, r3⟩ : ∃ m, (countN hz 3 : Int) = m := ⟨_, rfl⟩
      obtain ⟨m4, r4⟩ : ∃ m, (countN hz 4 : Int) = m := ⟨_, rfl⟩
      have hall : m0 + m1 + m2 + m3 + m4 = (k : Int) + 1 := by
        have h1 := HALL.out
        have h2 := HLEN2.out
        omega
      have HALL2 := Lib.hid hall
      have HRR := Lib.hid (show m3 + m4 = (countN hz 3 : Int) + (countN hz 4 : Int) by omega)
      rw [r0, r1, r2, r3, r4] at HNN
      rw [r0, r1, r2, r3, r4]
      clear r0 r1 r2 r3 r4 HALL hall
      have HX8 := Lib.hid (show Below w4.heap.size w4 (w4.alloc (.cells #[.int .i64 m0, .int .i64 m1, .int .i64 m2, .int .i64 m3, .int .i64 m4] 36)) from (Below.refl _ _).alloc (Nat.le_refl _) _)
      have HQ8 := Lib.hid (heap_alloc_new w4 (.cells #[.int .i64 m0, .int .i64 m1, .int .i64 m2, .int .i64 m3, .int .i64 m4] 36))
      have HO5 := Lib.hid (own_low HO4.out HX8.out)
      have HG5 := Lib.hid (HG4.out.trans (HX8.out.mono HG4.out.size))
      have HQ5 := Lib.hid ((HX8.out.block _ (Array.getElem?_eq_some_iff.1 HQ4.out).1).trans HQ4.out)
      have HNE := Lib.hid (show w4.heap.size ≠ q from fun e => by have := (Array.getElem?_eq_some_iff.1 HQ4.out).1; omega)
      have HN5 := Lib.hid (own_ne HO5.out HQ5.out (by decide))
      clear HX8 HO4 HG4 HQ4
      obtain ⟨g0, g1, g2, g3, g4⟩ := HNN.out
      have hd := HD.out
      have hT := HT.out
      have hall := HALL2.out
      clear HNN HD HT HALL2
      rcases hss with rfl | rfl | rfl | rfl | rfl
      · rw [if_pos rfl] at g0
        rw [if_neg (by decide), Int.add_zero] at g1
        subst g1
        rw [if_neg (by decide), Int.add_zero] at g2
        subst g2
        rw [if_neg (by decide), Int.add_zero] at g3
        subst g3
        rw [if_neg (by decide), Int.add_zero] at g4
        subst g4
        have x1 : IntKind.i64.wrap (n0 + 1) = m0 := by rw [wrap_small (by omega) (by omega)]; omega
        have y1 : IntKind.i64.wrap (m0 + m1) = m0 + m1 := wrap_small (by omega) (by omega)
        have y2 : IntKind.i64.wrap (m0 + m1 + m2) = m0 + m1 + m2 := wrap_small (by omega) (by omega)
        have y3 : IntKind.i64.wrap (m0 + m1 + m2 + T) = (k : Int) + 1 := by rw [wrap_small (by omega) (by omega)]; omega
        have y4 : IntKind.i64.wrap ((k : Int) + 1) = (k : Int) + 1 := wrap_small (by omega) (by omega)
        have p3 : 0 ≤ m3 ∧ m3 ≤ 1099511627776 := by omega
        have p4 : 0 ≤ m4 ∧ m4 ≤ 1099511627776 := by omega
        have HA := Lib.hid (fun W (h : Below w.heap.size w W) => H.aside m0 m1 m2 m3 m4 W (HL.out _ h) p3.1 p3.2 p4.1 p4.2)
        rw [show m3 + m4 = T by omega] at HA HRR
        have z1 : (T == T) = true := beq_self_eq_true _
        have z2 : ((k : Int) + 1 == (k : Int) + 1) = true := beq_self_eq_true _
        have l1 : (w4.alloc (.cells #[.int .i64 m0, .int .i64 m1, .int .i64 m2, .int .i64 m3, .int .i64 m4] 36)).cell? ⟨q, 0, none⟩ = some (.int .i64 n0) := (cell_of_row _ _ _ _ _ _ HQ5.out).trans rfl
        clear g0 hd hT hall
        have neqN := fun W : World => neq36 m0 m1 m2 m3 m4 W
        have f1 : (w4.alloc (.cells #[.int .i64 m0, .int .i64 m1, .int .i64 m2, .int .i64 m3, .int .i64 m4] 36)).frozen? ⟨q, 0, none⟩ = false := frozen_of_row _ _ _ _ _ HQ5.out
        have hput := put_setCell HQ5.out 0 (.int .i64 m0)
        have HS := Lib.hid (S10.start (w0 := w) (hs := hz) (hput.at_.trans rfl) ((hput.far _ HNE.out).trans HQ8.out) ⟨own_same HO5.out (fun g hg => hput.far g (HN5.out g hg)), hput.below HG5.out HQW.out⟩)
        clear hput
        obtain ⟨⟨c0, c1, c2, c3, c4, c5, c6, c7, c8, c9⟩, _⟩ := HS.out
        have HBS := Lib.hid (S10.low HS.out)
        go_wp2_with fail
        refine (HA.out _ HBS.out).mono ?_
        rintro e w9 ⟨rfl, hb9⟩
        have HS9 := Lib.hid (HS.out.step hb9)
        obtain ⟨⟨c0, c1, c2, c3, c4, c5, c6, c7, c8, c9⟩, HAT⟩ := HS9.out
        clear hb9
        go_wp2_with fail
        go_roundw
        case rel =>
          refine ⟨k + 1, hz, by omega, by go_num, ?_, HLEN2.out, HUN, HAT⟩
          rw [HRR.out]
        case measure => simp [intOf]; omega
      · rw [if_neg (by decide), Int.add_zero] at g0
        subst g0
        rw [if_pos rfl] at g1
        rw [if_neg (by decide), Int.add_zero] at g2
        subst g2
        rw [if_neg (by decide), Int.add_zero] at g3
        subst g3
        rw [if_neg (by decide), Int.add_zero] at g4
        subst g4
        have x1 : IntKind.i64.wrap (n1 + 1) = m1 := by rw [wrap_small (by omega) (by omega)]; omega
        have y1 : IntKind.i64.wrap (m0 + m1) = m0 + m1 := wrap_small (by omega) (by omega)
        have y2 : IntKind.i64.wrap (m0 + m1 + m2) = m0 + m1 + m2 := wrap_small (by omega) (by omega)
        have y3 : IntKind.i64.wrap (m0 + m1 + m2 + T) = (k : Int) + 1 := by rw [wrap_small (by omega) (by omega)]; omega
        have y4 : IntKind.i64.wrap ((k : Int) + 1) = (k : Int) + 1 := wrap_small (by omega) (by omega)
        have p3 : 0 ≤ m3 ∧ m3 ≤ 1099511627776 := by omega
        have p4 : 0 ≤ m4 ∧ m4 ≤ 1099511627776 := by omega
        have HA := Lib.hid (fun W (h : Below w.heap.size w W) => H.aside m0 m1 m2 m3 m4 W (HL.out _ h) p3.1 p3.2 p4.1 p4.2)
        rw [show m3 + m4 = T by omega] at HA HRR
        have z1 : (T == T) = true := beq_self_eq_true _
        have z2 : ((k : Int) + 1 == (k : Int) + 1) = true := beq_self_eq_true _
        have l1 : (w4.alloc (.cells #[.int .i64 m0, .int .i64 m1, .int .i64 m2, .int .i64 m3, .int .i64 m4] 36)).cell? ⟨q, 1, none⟩ = some (.int .i64 n1) := (cell_of_row _ _ _ _ _ _ HQ5.out).trans rfl
        clear g1 hd hT hall
        have neqN := fun W : World => neq36 m0 m1 m2 m3 m4 W
        have f1 : (w4.alloc (.cells #[.int .i64 m0, .int .i64 m1, .int .i64 m2, .int .i64 m3, .int .i64 m4] 36)).frozen? ⟨q, 1, none⟩ = false := frozen_of_row _ _ _ _ _ HQ5.out
        have hput := put_setCell HQ5.out 1 (.int .i64 m1)
        have HS := Lib.hid (S10.start (w0 := w) (hs := hz) (hput.at_.trans rfl) ((hput.far _ HNE.out).trans HQ8.out) ⟨own_same HO5.out (fun g hg => hput.far g (HN5.out g hg)), hput.below HG5.out HQW.out⟩)
        clear hput
        obtain ⟨⟨c0, c1, c2, c3, c4, c5, c6, c7, c8, c9⟩, _⟩ := HS.out
        have HBS := Lib.hid (S10.low HS.out)
        go_wp2_with fail
        refine (HA.out _ HBS.out).mono ?_
        rintro e w9 ⟨rfl, hb9⟩
        have HS9 := Lib.hid (HS.out.step hb9)
        obtain ⟨⟨c0, c1, c2, c3, c4, c5, c6, c7, c8, c9⟩, HAT⟩ := HS9.out
        clear hb9
        go_wp2_with fail
        go_roundw
        case rel =>
          refine ⟨k + 1, hz, by omega, by go_num, ?_, HLEN2.out, HUN, HAT⟩
          rw [HRR.out]
        case measure => simp [intOf]; omega
      · rw [if_neg (by decide), Int.add_zero] at g0
        subst g0
        rw [if_neg (by decide), Int.add_zero] at g1
        subst g1
        rw [if_pos rfl] at g2
        rw [if_neg (by decide), Int.add_zero] at g3
        subst g3
        rw [if_neg (by decide), Int.add_zero] at g4
        subst g4
        have x1 : IntKind.i64.wrap (n2 + 1) = m2 := by rw [wrap_small (by omega) (by omega)]; omega
        have y1 : IntKind.i64.wrap (m0 + m1) = m0 + m1 := wrap_small (by omega) (by omega)
        have y2 : IntKind.i64.wrap (m0 + m1 + m2) = m0 + m1 + m2 := wrap_small (by omega) (by omega)
        have y3 : IntKind.i64.wrap (m0 + m1 + m2 + T) = (k : Int) + 1 := by rw [wrap_small (by omega) (by omega)]; omega
        have y4 : IntKind.i64.wrap ((k : Int) + 1) = (k : Int) + 1 := wrap_small (by omega) (by omega)
        have p3 : 0 ≤ m3 ∧ m3 ≤ 1099511627776 := by omega
        have p4 : 0 ≤ m4 ∧ m4 ≤ 1099511627776 := by omega
        have HA := Lib.hid (fun W (h : Below w.heap.size w W) => H.aside m0 m1 m2 m3 m4 W (HL.out _ h) p3.1 p3.2 p4.1 p4.2)
        rw [show m3 + m4 = T by omega] at HA HRR
        have z1 : (T == T) = true := beq_self_eq_true _
        have z2 : ((k : Int) + 1 == (k : Int) + 1) = true := beq_self_eq_true _
        have l1 : (w4.alloc (.cells #[.int .i64 m0, .int .i64 m1, .int .i64 m2, .int .i64 m3, .int .i64 m4] 36)).cell? ⟨q, 2, none⟩ = some (.int .i64 n2) := (cell_of_row _ _ _ _ _ _ HQ5.out).trans rfl
        clear g2 hd hT hall
        have neqN := fun W : World => neq36 m0 m1 m2 m3 m4 W
        have f1 : (w4.alloc (.cells #[.int .i64 m0, .int .i64 m1, .int .i64 m2, .int .i64 m3, .int .i64 m4] 36)).frozen? ⟨q, 2, none⟩ = false := frozen_of_row _ _ _ _ _ HQ5.out
        have hput := put_setCell HQ5.out 2 (.int .i64 m2)
        have HS := Lib.hid (S10.start (w0 := w) (hs := hz) (hput.at_.trans rfl) ((hput.far _ HNE.out).trans HQ8.out) ⟨own_same HO5.out (fun g hg => hput.far g (HN5.out g hg)), hput.below HG5.out HQW.out⟩)
        clear hput
        obtain ⟨⟨c0, c1, c2, c3, c4, c5, c6, c7, c8, c9⟩, _⟩ := HS.out
        have HBS := Lib.hid (S10.low HS.out)
        go_wp2_with fail
        refine (HA.out _ HBS.out).mono ?_
        rintro e w9 ⟨rfl, hb9⟩
        have HS9 := Lib.hid (HS.out.step hb9)
        obtain ⟨⟨c0, c1, c2, c3, c4, c5, c6, c7, c8, c9⟩, HAT⟩ := HS9.out
        clear hb9
        go_wp2_with fail
        go_roundw
        case rel =>
          refine ⟨k + 1, hz, by omega, by go_num, ?_, HLEN2.out, HUN, HAT⟩
          rw [HRR.out]
        case measure => simp [intOf]; omega
      · rw [if_neg (by decide), Int.add_zero] at g0
        subst g0
        rw [if_neg (by decide), Int.add_zero] at g1
        subst g1
        rw [if_neg (by decide), Int.add_zero] at g2
        subst g2
        rw [if_pos rfl] at g3
        rw [if_neg (by decide), Int.add_zero] at g4
        subst g4
        have x1 : IntKind.i64.wrap (n3 + 1) = m3 := by rw [wrap_small (by omega) (by omega)]; omega
        obtain ⟨Tn, hTn⟩ : ∃ t, T + 1 = t := ⟨_, rfl⟩
        have x2 : IntKind.i64.wrap (T + 1) = Tn := by rw [wrap_small (by omega) (by omega)]; omega
        have y1 : IntKind.i64.wrap (m0 + m1) = m0 + m1 := wrap_small (by omega) (by omega)
        have y2 : IntKind.i64.wrap (m0 + m1 + m2) = m0 + m1 + m2 := wrap_small (by omega) (by omega)
        have y3 : IntKind.i64.wrap (m0 + m1 + m2 + Tn) = (k : Int) + 1 := by rw [wrap_small (by omega) (by omega)]; omega
        have y4 : IntKind.i64.wrap ((k : Int) + 1) = (k : Int) + 1 := wrap_small (by omega) (by omega)
        have p3 : 0 ≤ m3 ∧ m3 ≤ 1099511627776 := by omega
        have p4 : 0 ≤ m4 ∧ m4 ≤ 1099511627776 := by omega
        have HA := Lib.hid (fun W (h : Below w.heap.size w W) => H.aside m0 m1 m2 m3 m4 W (HL.out _ h) p3.1 p3.2 p4.1 p4.2)
        rw [show m3 + m4 = Tn by omega] at HA HRR
        have z1 : (Tn == Tn) = true := beq_self_eq_true _
        have z2 : ((k : Int) + 1 == (k : Int) + 1) = true := beq_self_eq_true _
        have l1 : (w4.alloc (.cells #[.int .i64 m0, .int .i64 m1, .int .i64 m2, .int .i64 m3, .int .i64 m4] 36)).cell? ⟨q, 3, none⟩ = some (.int .i64 n3) := (cell_of_row _ _ _ _ _ _ HQ5.out).trans rfl
        clear g3 hd hT hall hTn
        have neqN := fun W : World => neq36 m0 m1 m2 m3 m4 W
        have f1 : (w4.alloc (.cells #[.int .i64 m0, .int .i64 m1, .int .i64 m2, .int .i64 m3, .int .i64 m4] 36)).frozen? ⟨q, 3, none⟩ = false := frozen_of_row _ _ _ _ _ HQ5.out
        have hput := put_setCell HQ5.out 3 (.int .i64 m3)
        have HS := Lib.hid (S10.start (w0 := w) (hs := hz) (hput.at_.trans rfl) ((hput.far _ HNE.out).trans HQ8.out) ⟨own_same HO5.out (fun g hg => hput.far g (HN5.out g hg)), hput.below HG5.out HQW.out⟩)
        clear hput
        obtain ⟨⟨c0, c1, c2, c3, c4, c5, c6, c7, c8, c9⟩, _⟩ := HS.out
        have HBS := Lib.hid (S10.low HS.out)
        go_wp2_with fail
        refine (HA.out _ HBS.out).mono ?_
        rintro e w9 ⟨rfl, hb9⟩
        have HS9 := Lib.hid (HS.out.step hb9)
        obtain ⟨⟨c0, c1, c2, c3, c4, c5, c6, c7, c8, c9⟩, HAT⟩ := HS9.out
        clear hb9
        go_wp2_with fail
        go_roundw
        case rel =>
          refine ⟨k + 1, hz, by omega, by go_num, ?_, HLEN2.out, HUN, HAT⟩
          rw [HRR.out]
        case measure => simp [intOf]; omega
      · rw [if_neg (by decide), Int.add_zero] at g0
        subst g0
        rw [if_neg (by decide), Int.add_zero] at g1
        subst g1
        rw [if_neg (by decide), Int.add_zero] at g2
        subst g2
        rw [if_neg (by decide), Int.add_zero] at g3
        subst g3
        rw [if_pos rfl] at g4
        have x1 : IntKind.i64.wrap (n4 + 1) = m4 := by rw [wrap_small (by omega) (by omega)]; omega
        obtain ⟨Tn, hTn⟩ : ∃ t, T + 1 = t := ⟨_, rfl⟩
        have x2 : IntKind.i64.wrap (T + 1) = Tn := by rw [wrap_small (by omega) (by omega)]; omega
        have y1 : IntKind.i64.wrap (m0 + m1) = m0 + m1 := wrap_small (by omega) (by omega)
        have y2 : IntKind.i64.wrap (m0 + m1 + m2) = m0 + m1 + m2 := wrap_small (by omega) (by omega)
        have y3 : IntKind.i64.wrap (m0 + m1 + m2 + Tn) = (k : Int) + 1 := by rw [wrap_small (by omega) (by omega)]; omega
        have y4 : IntKind.i64.wrap ((k : Int) + 1) = (k : Int) + 1 := wrap_small (by omega) (by omega)
        have p3 : 0 ≤ m3 ∧ m3 ≤ 1099511627776 := by omega
        have p4 : 0 ≤ m4 ∧ m4 ≤ 1099511627776 := by omega
        have HA := Lib.hid (fun W (h : Below w.heap.size w W) => H.aside m0 m1 m2 m3 m4 W (HL.out _ h) p3.1 p3.2 p4.1 p4.2)
        rw [show m3 + m4 = Tn by omega] at HA HRR
        have z1 : (Tn == Tn) = true := beq_self_eq_true _
        have z2 : ((k : Int) + 1 == (k : Int) + 1) = true := beq_self_eq_true _
        have l1 : (w4.alloc (.cells #[.int .i64 m0, .int .i64 m1, .int .i64 m2, .int .i64 m3, .int .i64 m4] 36)).cell? ⟨q, 4, none⟩ = some (.int .i64 n4) := (cell_of_row _ _ _ _ _ _ HQ5.out).trans rfl
        clear g4 hd hT hall hTn
        have neqN := fun W : World => neq36 m0 m1 m2 m3 m4 W
        have f1 : (w4.alloc (.cells #[.int .i64 m0, .int .i64 m1, .int .i64 m2, .int .i64 m3, .int .i64 m4] 36)).frozen? ⟨q, 4, none⟩ = false := frozen_of_row _ _ _ _ _ HQ5.out
        have hput := put_setCell HQ5.out 4 (.int .i64 m4)
        have HS := Lib.hid (S10.start (w0 := w) (hs := hz) (hput.at_.trans rfl) ((hput.far _ HNE.out).trans HQ8.out) ⟨own_same HO5.out (fun g hg => hput.far g (HN5.out g hg)), hput.below HG5.out HQW.out⟩)
        clear hput
        obtain ⟨⟨c0, c1, c2, c3, c4, c5, c6, c7, c8, c9⟩, _⟩ := HS.out
        have HBS := Lib.hid (S10.low HS.out)
        go_wp2_with fail
        refine (HA.out _ HBS.out).mono ?_
        rintro e w9 ⟨rfl, hb9⟩
        have HS9 := Lib.hid (HS.out.step hb9)
        obtain ⟨⟨c0, c1, c2, c3, c4, c5, c6, c7, c8, c9⟩, HAT⟩ := HS9.out
        clear hb9
        go_wp2_with fail
        go_roundw
        case rel =>
          refine ⟨k + 1, hz, by omega, by go_num, ?_, HLEN2.out, HUN, HAT⟩
          rw [HRR.out]
        case measure => simp [intOf]; omega
    · have hge : (l.length : Int) ≤ (k : Int) := by omega
      have HC := Lib.hid (lives_any H _ (HL.out _ HR.out.low))
      go_wp2_with fail
      refine HC.out.mono ?_
      rintro e w1 ⟨rfl, hb1⟩
      have HB1 := Lib.hid (HR.out.low.trans (hb1.mono HR.out.low.size))
      clear hb1
      go_wp2_with fail
      go_ret
      exact ⟨rfl, HB1.out⟩
end Go.Proofs.YtelehpegnjbcaaaDoor
