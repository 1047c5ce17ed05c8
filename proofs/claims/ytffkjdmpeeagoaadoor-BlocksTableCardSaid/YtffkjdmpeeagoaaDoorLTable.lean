/-
  The law BlocksTable, walked: it returns true and only makes memory of its own; condition: the tables as laid, the list of numbers lies as it says.
-/
import Derived.Test.YtffkjdmpeeagoaaDoorBA7
import Derived.Test.YtffkjdmpeeagoaaDoorFRow
namespace Go.Proofs.YtffkjdmpeeagoaaDoor
open Go.RowKit Go.Maps

set_option maxRecDepth 100000 in
set_option maxHeartbeats 16000000 in
theorem table_law (z : Int) (A : Option Addr) (cap : Nat) (l : List Int) (W : World) (hL : Lay W) (hM : LayM W) (hz : U8 z) (hs : Row W A (l.map fun x => .int .u8 x)) (hu : ∀ x ∈ l, U8 x) :
    Calls Tryd.prog 5 #[.int .u8 z, .slice A l.length cap] W fun e W' => e = .returned (.bool true) ∧ Below W.heap.size W W' := by
  obtain ⟨r, n, hr, hn, e1⟩ := tab_nums hz
  have hzw : IntKind.i64.wrap z = z := by simp [IntKind.wrap, IntKind.bits, IntKind.signed]; obtain ⟨a, b⟩ := hz; omega
  have hrw := iwB (n := r) (by omega)
  have hnw : IntKind.i64.wrap ((r : Int) + 1) = (n : Int) := by simp [IntKind.wrap, IntKind.bits, IntKind.signed]; omega
  have h1W : 1 < W.heap.size := by have := hM.1; have := hL.1; omega
  have hn4 : 1 ≤ n ∧ n ≤ 4 := by omega
  have HS := Lib.hid hs
  have HU := Lib.hid hu
  have HLM := Lib.hid (⟨hL, hM⟩ : _ ∧ _)
  clear hL hM hs hu hz hn
  go_enter Tryd.func5, Tryd.ntmps5
  by_cases hlen : 500 < l.length
  · have hlen' : (500 : Int) < (l.length : Int) := by omega
    go_wp2_with fail
    ((with_reducible refine (lives11_any HLM.out.1 HLM.out.2).mono ?_); rintro e w4 ⟨rfl, hb⟩)
    go_wp2_with fail
    go_ret
    exact ⟨rfl, hb⟩
  have hlen' : (l.length : Int) ≤ 500 := by omega
  go_wp2_with fail
  ((with_reducible refine (table_me (n : Int) (by omega) (by omega) HLM.out.1 HLM.out.2).mono ?_); rintro e w1 ⟨p, b, rfl, h1⟩)
  have hp := h1.p0
  have hb := h1.b0
  have HB0 := Lib.hid h1.beg
  have hmk := mkA8
  clear h1 hzw hrw hnw e1 HLM
  go_upto_region 7 with (fail)
  revert HB0
  generalize w1.alloc (.cells act8 70) = w2
  generalize w1.heap.size = G
  intro HB0
  clear hmk
  go_wp2_with fail
  go_loopw [9] (fun j wr => ∃ i : Nat, i ≤ 8 ∧ j = .int .i64 (i : Int) ∧ Hid (Beg W p b G (n : Int) i wr)) (fun j _ => 9 - (intOf j).toNat)
  case atStart => exact ⟨0, by decide, rfl, HB0⟩
  case round =>
    clear HB0
    obtain ⟨i, hi, rfl, HB⟩ := hrel
    rename World => w3
    have hge : (0 : Int) ≤ (i : Int) := by omega
    by_cases hlt : i < 8
    · have hlt' : (i : Int) < 8 := by omega
      obtain ⟨v0, hv0⟩ := HB.out.cell hlt
      have hfr := HB.out.free (i * 3)
      rw [Nat.mul_comm] at hv0
      have HB3 := Lib.hid (HB.out.step hlt h1W (a := ⟨G, i * 3, none⟩) (by rw [Nat.mul_comm]))
      go_wp2_with fail
      go_roundw
      case rel => exact ⟨i + 1, by omega, by go_num, HB3⟩
      case measure => simp [intOf]; omega
    · have e8 : (i : Int) = 8 := by omega
      rw [e8]
      clear e8
      obtain rfl : i = 8 := by omega
      obtain ⟨k0, hk0, hT⟩ := tsn_first HB.out (by omega)
      have HX := Lib.hid (show ∃ m k, TSn W.heap.size p b G w3.heap.size m (n : Int) 200 k W (w3.alloc (.cells #[.pointer none, .pointer none] 72)) from ⟨_, k0, hT⟩)
      have hBW : W.heap.size ≤ W.heap.size := Nat.le_refl _
      clear HB hT hk0
      go_upto_region 12 with (fail)
      revert HX
      generalize w3.alloc (.cells #[.pointer none, .pointer none] 72) = w4
      generalize w3.heap.size = K
      intro HX
      clear hge hlt hi
      go_wp2_with fail
      go_loopw [7, 11] (fun ev j wr => ∃ i : Nat, ∃ ever : Int, i ≤ l.length ∧ ev = .int .i64 ever ∧ j = .int .i64 (i : Int) ∧ Hid (∃ m k, TSn W.heap.size p b G K m ever (200 + 30 * (i : Int)) k W wr)) (fun _ j _ => l.length + 1 - (intOf j).toNat)
      case atStart => exact ⟨0, _, Nat.zero_le _, rfl, rfl, HX⟩
      case round =>
        clear HX
        obtain ⟨i, ever, hi, rfl, rfl, HR⟩ := hrel
        rename World => w5
        have hge : (0 : Int) ≤ (i : Int) := by omega
        by_cases hlt : i < l.length
        · obtain ⟨g, off, rfl, hc⟩ := HS.out.at_ (k := i) (by rw [List.length_map]; exact hlt)
          have hlow : Below W.heap.size W w5 := by obtain ⟨m, k, T⟩ := HR.out; exact T.low
          have hy : w5.cell? ⟨g, off + i, none⟩ = some (.int .u8 (l.getD i 0)) := low_cellB hlow (hc i _ (by simp [List.getD_eq_getElem?_getD, List.getElem?_eq_getElem hlt]))
          have hx := HU.out (l.getD i 0) (by rw [List.getD_eq_getElem?_getD, List.getElem?_eq_getElem hlt]; simp)
          clear hc hlow
          generalize l.getD i 0 = x at hy hx
          obtain ⟨k, d, e, hk, hd, he, q1, q2, q3⟩ := tab_parts hx
          have hxw : IntKind.i64.wrap x = x := by simp [IntKind.wrap, IntKind.bits, IntKind.signed]; obtain ⟨a, b⟩ := hx; omega
          have f1 := iwB (n := k) (by omega)
          have f2 : IntKind.u8.wrap (d : Int) = (d : Int) := by simp [IntKind.wrap, IntKind.bits, IntKind.signed]; omega
          have f3 : IntKind.u8.wrap (e : Int) = (e : Int) := by simp [IntKind.wrap, IntKind.bits, IntKind.signed]; omega
          have hlt' : (i : Int) < (l.length : Int) := by omega
          have hi500 : i < 500 := by omega
          have hk0 : (0 : Int) ≤ (k : Int) := by omega
          clear hx
          generalize l.length = ll at *
          by_cases hk8 : k < 8
          · have hk8' : (k : Int) < 8 := by omega
            have hk8'' : ¬ (8 : Int) ≤ (k : Int) := by omega
            obtain ⟨m, kk, T⟩ := HR.out
            have HT := Lib.hid T
            have hact := tsn_act h1W hBW hp hb hk8 (k * 3) (Nat.mul_comm _ _) T (by omega)
            clear HR T
            go_wp2_with fail
            ((with_reducible refine hact.mono ?_); rintro e' w6 ⟨rfl, T6⟩)
            clear hact hy
            have HT6 := Lib.hid T6
            clear T6 HT
            go_wp2_with fail
            ((with_reducible refine (tsn_many hBW hp hb HT6.out (by omega)).mono ?_); rintro e' w7 ⟨rfl, T7⟩)
            have HT7 := Lib.hid T7
            clear T7 HT6
            have hme : m ≤ ever := HT7.out.n14.2.1
            have hmn : ¬ ever < m := by omega
            go_wp2_with fail
            ((with_reducible refine (tsn_sound hBW hp hb HT7.out (by omega)).mono ?_); rintro e' w8 ⟨rfl, T8⟩)
            have HR8 := Lib.hid (show ∃ m k, TSn W.heap.size p b G K m ever (200 + 30 * ((i + 1 : Nat) : Int)) k W w8 from ⟨_, _, T8.mono (by push_cast; omega)⟩)
            clear T8 HT7 hme hmn
            go_wp2_with fail
            go_roundw
            case rel => exact ⟨i + 1, ever, by omega, rfl, by go_num, HR8⟩
            case measure => simp [intOf]; omega
          · have hk8' : ¬ (k : Int) < 8 := by omega
            have hk8'' : (8 : Int) ≤ (k : Int) := by omega
            obtain ⟨m, kk, T⟩ := HR.out
            have HT := Lib.hid T
            clear HR T
            obtain ⟨gr, hgr⟩ : ∃ gr : Bool, ((e : Int) == 1) = gr := ⟨_, rfl⟩
            have hkeep := tsn_keep gr h1W hBW hp hb HT.out (by omega)
            go_wp2_with fail
            ((with_reducible refine hkeep.mono ?_); rintro e' w6 ⟨rfl, m6, k6, T6, _⟩)
            clear hkeep hy HT
            have HT6 := Lib.hid T6
            clear T6
            go_wp2_with fail
            ((with_reducible refine (tsn_many hBW hp hb HT6.out (by omega)).mono ?_); rintro e' w7 ⟨rfl, T7⟩)
            have HT7 := Lib.hid T7
            clear T7 HT6
            go_wp2_with fail
            all_goals
              first
                | (have hmx : m6 ≤ ever := by assumption
                   rw [mx_le hmx] at HT7)
                | (have hmx : ever < m6 := by assumption
                   rw [show mx ever m6 = m6 from if_pos hmx] at HT7)
              ((with_reducible refine (tsn_sound hBW hp hb HT7.out (by omega)).mono ?_); rintro e' w8 ⟨rfl, T8⟩)
              have HR8 := Lib.hid (⟨_, _, T8.mono (by push_cast; omega)⟩ : ∃ m k, TSn W.heap.size p b G K m _ (200 + 30 * ((i + 1 : Nat) : Int)) k W w8)
              clear T8 HT7
              go_wp2_with fail
              go_roundw
              case rel => exact ⟨i + 1, _, by omega, rfl, by go_num, HR8⟩
              case measure => simp [intOf]; omega
        · have HX := Lib.hid (show ∃ m k, TSn W.heap.size p b G K m ever 20000 k W w5 from by obtain ⟨m, k, T⟩ := HR.out; exact ⟨m, k, T.mono (by omega)⟩)
          clear HR hge hi
          go_wp2_with fail
          go_loopw [13] (fun j wr => ∃ i : Int, 0 ≤ i ∧ i ≤ 320 ∧ j = .int .i64 i ∧ Hid (∃ m k, TSn W.heap.size p b G K m ever (20000 + 2 * i) k W wr)) (fun j _ => 321 - (intOf j).toNat)
          case atStart => exact ⟨0, by decide, by decide, rfl, HX⟩
          case round =>
            clear HX
            obtain ⟨i, hge, hi, rfl, HR⟩ := hrel
            rename World => w6
            by_cases hlt : i < 320
            · obtain ⟨j, hj⟩ : ∃ j : Nat, j = (i / 40).toNat := ⟨_, rfl⟩
              have hj8 : j < 8 := by omega
              have hjw := iwB (n := j) (by omega)
              have hj8' : (j : Int) < 8 := by omega
              have hj0 : (0 : Int) ≤ (j : Int) := by omega
              obtain ⟨m, kk, T⟩ := HR.out
              have HT := Lib.hid T
              have hact := tsn_act h1W hBW hp hb hj8 (j * 3) (Nat.mul_comm _ _) T (by omega)
              have HID := Lib.hid (show ∃ m k, TSn W.heap.size p b G K m ever (20000 + 2 * (i + 1)) k W w6 from ⟨_, _, T.mono (by omega)⟩)
              have hcell := (T.acell hj8).2
              rw [Nat.mul_comm 3 j] at hcell
              have hq64 : i / 40 = (j : Int) := by omega
              clear HR T hj
              go_upto_region 27 with (fail)
              rw [hq64]
              clear hq64
              rcases hcell with ⟨c1, c2⟩ | ⟨q, c1, c2⟩ | ⟨q, c1, c2⟩
              · go_wp2_with fail
                go_roundw
                case rel => exact ⟨i + 1, by omega, by omega, by go_num, HID⟩
                case measure => simp [intOf]; omega
              · go_wp2_with fail
                ((with_reducible refine hact.mono ?_); rintro e' w7 ⟨rfl, T7⟩)
                have HR7 := Lib.hid (show ∃ m k, TSn W.heap.size p b G K m ever (20000 + 2 * (i + 1)) k W w7 from ⟨_, _, T7.mono (by omega)⟩)
                clear T7 hact HT HID c1 c2
                go_wp2_with fail
                go_roundw
                case rel => exact ⟨i + 1, by omega, by omega, by go_num, HR7⟩
                case measure => simp [intOf]; omega
              · go_wp2_with fail
                ((with_reducible refine hact.mono ?_); rintro e' w7 ⟨rfl, T7⟩)
                have HR7 := Lib.hid (show ∃ m k, TSn W.heap.size p b G K m ever (20000 + 2 * (i + 1)) k W w7 from ⟨_, _, T7.mono (by omega)⟩)
                clear T7 hact HT HID c1 c2
                go_wp2_with fail
                go_roundw
                case rel => exact ⟨i + 1, by omega, by omega, by go_num, HR7⟩
                case measure => simp [intOf]; omega
            · have HX := Lib.hid (show ∃ m ev k, ever ≤ ev ∧ (k.ln = 0 ∨ rkK k ≤ 3 - ((0 : Nat) : Int)) ∧ TSn W.heap.size p b G K m ev (21000 + ((0 : Nat) : Int)) k W w6 from by obtain ⟨m, k, T⟩ := HR.out; exact ⟨m, ever, k, Int.le_refl _, .inr (by have := T.rk; push_cast; omega), T.mono (by push_cast; omega)⟩)
              have HEV := Lib.hid (show 0 ≤ ever from by obtain ⟨m, k, T⟩ := HR.out; have := T.n14; omega)
              clear HR
              go_wp2_with fail
              clear hge hi hlt
              go_loopw [15] (fun j wr => ∃ i : Nat, i ≤ 9 ∧ j = .int .i64 (i : Int) ∧ Hid (∃ m ev k, ever ≤ ev ∧ (k.ln = 0 ∨ rkK k ≤ 3 - (i : Int)) ∧ TSn W.heap.size p b G K m ev (21000 + (i : Int)) k W wr)) (fun j _ => 10 - (intOf j).toNat)
              case atStart => exact ⟨0, by decide, rfl, HX⟩
              case round =>
                clear HX
                obtain ⟨i, hi, rfl, HR⟩ := hrel
                rename World => w7
                have hge : (0 : Int) ≤ (i : Int) := by omega
                obtain ⟨m, ev, k, hev, hrk, T⟩ := HR.out
                have HT := Lib.hid T
                have hkc := T.kcell
                have hk3 := T.rk3
                clear HR T
                by_cases hk0 : k.ln = 0
                · have hcc : w7.cell? ⟨K, 0, none⟩ = some (.pointer none) ∧ w7.cell? ⟨K, 1, none⟩ = some (.pointer none) := by
                    rcases hkc with ⟨_, c⟩ | ⟨h, _⟩ | ⟨h, _⟩
                    · exact c
                    · exact absurd hk0 h
                    · exact absurd hk0 h
                  obtain ⟨c0, c1⟩ := hcc
                  have HK0 := Lib.hid hk0
                  have HE0 := Lib.hid hev
                  clear hkc hrk hk3 hk0 hev
                  by_cases hlt : i < 9
                  all_goals
                    first
                      | (have hlt' : (i : Int) < 9 := by omega)
                      | (have hlt' : ¬ (i : Int) < 9 := by omega)
                    go_wp2_with fail
                    ((with_reducible refine (tsn_sound hBW hp hb HT.out (by omega)).mono ?_); rintro e' w8 ⟨rfl, T8⟩)
                    have HT8 := Lib.hid T8
                    clear T8 HT c0 c1
                    go_wp2_with fail
                    ((with_reducible refine (tsn_many hBW hp hb HT8.out (by omega)).mono ?_); rintro e' w9 ⟨rfl, T9⟩)
                    have HT9 := Lib.hid (T9.mono (s := 22000 + 5 * ((0 : Nat) : Int)) (by push_cast; omega))
                    clear T9 HT8
                    go_wp2_with fail
                    all_goals
                      first
                        | (have hmx : m ≤ ever := by assumption
                           have HE := Lib.hid (show ever ≤ ev ∧ 0 ≤ ever from ⟨HE0.out, HEV.out⟩)
                           revert HE
                           clear hmx HE0 HEV
                           generalize ever = E
                           intro HE)
                        | (have hmx : ever < m := by assumption
                           obtain ⟨E, hE⟩ : ∃ E, E = m := ⟨_, rfl⟩
                           have HE := Lib.hid (show E ≤ ev ∧ 0 ≤ E from by rw [hE]; have := HT9.out.n14; omega)
                           rw [← hE]
                           clear hmx HE0 HEV hE)
                      go_loopw [16] (fun j wr => ∃ i : Nat, i ≤ 4 ∧ j = .int .i64 (i : Int) ∧ Hid (TSn W.heap.size p b G K m ev (22000 + 5 * (i : Int)) k W wr)) (fun j _ => 5 - (intOf j).toNat)
                      case atStart => exact ⟨0, by decide, rfl, HT9⟩
                      case round =>
                        clear HT9
                        obtain ⟨i, hi, rfl, HT⟩ := hrel
                        rename World => wa
                        have hge : (0 : Int) ≤ (i : Int) := by omega
                        have h14 := HT.out.n14
                        have hE := HE.out
                        by_cases hlt : (i : Int) < E
                        · have hlt4 : (i : Int) < 4 := by omega
                          have hie : 0 ≤ (i : Int) ∧ (i : Int) < ev := ⟨hge, by omega⟩
                          have HIE := Lib.hid hie
                          clear h14 hE hie
                          go_wp2_with fail
                          ((with_reducible refine (blockA_any (i : Int) _).mono ?_); rintro e' wb ⟨rfl, hb1⟩)
                          have HT1 := Lib.hid (HT.out.below hBW hb1)
                          clear hb1 HT
                          go_wp2_with fail
                          ((with_reducible refine (tsn_block hBW hp hb HT1.out (by omega) HK0.out HIE.out).mono ?_); rintro e' wc ⟨v, rfl, hvu, hvc, T2⟩)
                          have HT2 := Lib.hid T2
                          have HVU := Lib.hid hvu
                          have hvc' : (fld v 32 1 != 0) = decide (m ≤ (i : Int)) := hvc
                          clear T2 HT1 hvu hvc
                          go_wp2_with fail
                          ((with_reducible refine (asBlock_any v _ HT2.out.lay.1 HVU.out).mono ?_); rintro e' wd ⟨rfl, zz, rfl⟩)
                          have HT3 := Lib.hid (HT2.out.below hBW (below_drewN' (Below.refl _ wc) zz))
                          clear HT2
                          by_cases hmi : m ≤ (i : Int)
                          · rw [decide_eq_true hmi] at hvc'
                            go_wp2_with fail
                            ((with_reducible refine (tsn_many hBW hp hb HT3.out (by omega)).mono ?_); rintro e' we ⟨rfl, T4⟩)
                            have HT4 := Lib.hid (T4.mono (s := 22000 + 5 * ((i + 1 : Nat) : Int)) (by push_cast; omega))
                            clear T4 HT3
                            go_wp2_with fail
                            go_roundw
                            case rel => exact ⟨i + 1, by omega, by go_num, HT4⟩
                            case measure => simp [intOf]; omega
                          · rw [decide_eq_false hmi] at hvc'
                            have hmi' : ¬ m ≤ (i : Int) := hmi
                            go_wp2_with fail
                            ((with_reducible refine (tsn_many hBW hp hb HT3.out (by omega)).mono ?_); rintro e' we ⟨rfl, T4⟩)
                            have HT4 := Lib.hid (T4.mono (s := 22000 + 5 * ((i + 1 : Nat) : Int)) (by push_cast; omega))
                            clear T4 HT3
                            go_wp2_with fail
                            go_roundw
                            case rel => exact ⟨i + 1, by omega, by go_num, HT4⟩
                            case measure => simp [intOf]; omega
                        · clear h14 hE
                          go_wp2_with fail
                          ((with_reducible refine (lives11_any HT.out.lay.1 HT.out.lay.2).mono ?_); rintro e' wf ⟨rfl, hb2⟩)
                          go_wp2_with fail
                          go_ret
                          exact ⟨rfl, HT.out.low.trans (hb2.mono HT.out.size)⟩
                · have hrk3 : rkK k ≤ 3 - (i : Int) := by rcases hrk with h | h; exact absurd h hk0; exact h
                  have hrk1 : rkK k = 4 - k.ln := by unfold rkK; rw [if_neg hk0]
                  have hlt' : (i : Int) < 9 := by omega
                  have hbg : begK k true = k := by unfold begK; rw [if_neg hk0]
                  have hkeep := tsn_keep true h1W hBW hp hb HT.out (by omega)
                  rw [hbg] at hkeep
                  have HF := Lib.hid (And.intro hrk3 (And.intro hrk1 (And.intro hev hk3)))
                  clear hrk hrk3 hrk1 hbg hev hk3
                  rcases hkc with ⟨h, _⟩ | ⟨_, q, c0, c1⟩ | ⟨_, q, c0, c1⟩
                  · exact absurd h hk0
                  all_goals
                    clear hk0
                    go_wp2_with fail
                    ((with_reducible refine hkeep.mono ?_); rintro e' w8 ⟨rfl, m8, k8, T8, hr8⟩)
                    have HR8 := Lib.hid (show ∃ m ev k, ever ≤ ev ∧ (k.ln = 0 ∨ rkK k ≤ 3 - ((i + 1 : Nat) : Int)) ∧ TSn W.heap.size p b G K m ev (21000 + ((i + 1 : Nat) : Int)) k W w8 from by
                      obtain ⟨f1, f2, f3, f4⟩ := HF.out
                      refine ⟨m8, _, k8, ?_, ?_, T8.mono (by push_cast; omega)⟩
                      · unfold mx; split <;> omega
                      · rcases hr8 with h | h
                        · exact .inl h
                        · refine .inr ?_
                          unfold rkK
                          push_cast
                          split <;> omega)
                    clear T8 hr8 hkeep HT c0 c1
                    have hi9 : i + 1 ≤ 9 := by obtain ⟨f1, f2, f3, f4⟩ := HF.out; omega
                    go_wp2_with fail
                    go_roundw
                    case rel => exact ⟨i + 1, hi9, by go_num, HR8⟩
                    case measure => simp [intOf]; omega
end Go.Proofs.YtffkjdmpeeagoaaDoor
