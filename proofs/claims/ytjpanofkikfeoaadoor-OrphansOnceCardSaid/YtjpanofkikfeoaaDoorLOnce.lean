/-
  The law OrphansOnce, walked: it returns true and only makes memory of its own; condition: the tables as laid, numbers of their kinds.
-/
import Derived.Test.YtjpanofkikfeoaaDoorON1
import Derived.Deep.RegionHeldLaw
import Derived.Deep.DeepCutAuto
import Derived.Deep.RegionHeld3
namespace Go.Proofs.YtjpanofkikfeoaaDoor
open Go.RowKit Go.Maps

theorem of_cells {p b : Nat} {M : MV} {w : World} {s : Int} (F : VX p b M w) (hk : M.s.st < 900000) (hs : 0 ≤ s ∧ s < 256) :
    Calls Tryd.prog 17 #[.pointer (some ⟨p, 0, none⟩), .int .i64 s] w fun e w' => e = .returned (.agg #[.int .i64 s, .int .u32 (s + 3), .bool false, .int .u64 (s + 1), .int .u64 (s + 5), .int .u64 (s + 9)]) ∧ ∃ M', VX p b M' w' ∧ M'.V = ofV M.V s ∧ M'.s.st ≤ M.s.st + 4 ∧ Onl p b [] w w' := of_vx F hk hs
theorem own_all {w : World} {B i : Nat} {v : Value} (h : OwnE w B v (allE i)) : w.ownsRow B 48 6 v i (flatE (allE i)) := by
  unfold OwnE at h
  rw [allE_len] at h
  exact h
set_option maxRecDepth 100000 in
set_option maxHeartbeats 32000000 in
theorem once_law (many : Int) (A1 : Option Addr) (cap1 : Nat) (l1 : List Int) (W : World) (hL : Lay W) (hM : LayM W) (hz : U8 many) (hs1 : Row W A1 (l1.map fun x => .int .u8 x)) (hu1 : ∀ x ∈ l1, U8 x) :
    Calls Tryd.prog 4 #[.int .u8 many, .slice A1 l1.length cap1] W fun e W' => e = .returned (.bool true) ∧ Below W.heap.size W W' := by
  obtain ⟨i0, hi0, hz0, hz1, hz2⟩ := info_parts infoE
  obtain ⟨n, hn40, e41⟩ := mod41 hz
  have hzw : IntKind.i64.wrap many = many := by simp [IntKind.wrap, IntKind.bits, IntKind.signed]; obtain ⟨a, b⟩ := hz; omega
  have hnw : IntKind.i64.wrap (n : Int) = (n : Int) := by simp [IntKind.wrap, IntKind.bits, IntKind.signed]; omega
  have h1W : 1 < W.heap.size := by have := hM.1; have := hL.1; omega
  have HS := Lib.hid hs1
  have HU := Lib.hid hu1
  have HLM := Lib.hid (⟨hL, hM⟩ : _ ∧ _)
  clear hL hM hs1 hu1 hz
  go_enter Tryd.func4, Tryd.ntmps4
  by_cases hlen : 600 < l1.length
  · have hlen' : (600 : Int) < (l1.length : Int) := by omega
    go_wp2_with fail
    ((with_reducible refine (lives12_any HLM.out.1 HLM.out.2).mono ?_); rintro e w4 ⟨rfl, hb⟩)
    go_wp2_with fail
    go_ret
    exact ⟨rfl, hb⟩
  have hlen' : (l1.length : Int) ≤ 600 := by omega
  go_wp2_with fail
  ((with_reducible refine (new_vx HLM.out.1 HLM.out.2).mono ?_); rintro e w1 ⟨p, b, M1, rfl, F1, hV1, hs1, hb1, hbb, hbp⟩)
  have hmk := mkT5
  have HO := Lib.hid (show OnS W p b w1.heap.size 0 (.slice none 0 0) (w1.alloc (.cells (cellsT fun _ => TI.none).toArray 58)) from ⟨fun _ => [], _, M1, (TWo.start F1 hV1 (by omega) hbb hb1 (Nat.le_refl _) h1W).pushRow, Beg.zero (by rw [hV1]), by omega⟩)
  clear F1 hV1 hs1 hb1 hbb hbp
  go_upto_region 8 with (fail)
  clear hmk
  revert HO
  generalize (w1.alloc (.cells (cellsT fun _ => TI.none).toArray 58)) = w2
  generalize w1.heap.size = G
  intro HO
  go_loopw [8, 9] (fun va j wr => ∃ i : Nat, ∃ Aa : Option Addr, ∃ ca : Nat, i ≤ n ∧ va = .slice Aa i ca ∧ j = .int .i64 (i : Int) ∧ Hid (OnS W p b G i (.slice Aa i ca) wr)) (fun _ j _ => n + 1 - (intOf j).toNat)
  case atStart => exact ⟨0, none, 0, Nat.zero_le _, rfl, rfl, HO⟩
  case round =>
    clear HO
    obtain ⟨i, Aa, ca, hi, rfl, rfl, HR⟩ := hrel
    rename World => w3
    have hge : (0 : Int) ≤ (i : Int) := by omega
    by_cases hlt : i < n
    · have hlt' : (i : Int) < (n : Int) := by omega
      obtain ⟨s, hs⟩ : ∃ s : Int, 6 * (i : Int) = s := ⟨_, rfl⟩
      have hsw : IntKind.i64.wrap (6 * (i : Int)) = s := by rw [hs]; simp [IntKind.wrap, IntKind.bits, IntKind.signed]; omega
      have hsr : 0 ≤ s ∧ s < 256 := by omega
      have HSI := Lib.hid hs
      clear hs
      obtain ⟨H, X, M, T0, Bg, hst⟩ := HR.out
      have HT := Lib.hid T0
      have HBG := Lib.hid Bg
      have HST := Lib.hid hst
      clear T0 Bg hst HR
      go_wp2_with fail
      ((with_reducible refine (of_cells (s := s) HT.out.mem (by have := HST.out; omega) hsr).mono ?_); rintro e w4 ⟨rfl, M', F', hV, hst', o4⟩)
      have T4 := HT.out.of_ F' o4
      have HV := Lib.hid hV
      have HST2 := Lib.hid (show M'.s.st ≤ 4 * ((i + 1 : Nat) : Int) from by have := HST.out; push_cast; omega)
      have hA4 : Below w4.heap.size w4 (w4.alloc (.cells #[.int .i64 s, .int .u32 (s + 3), .bool false, .int .u64 (s + 1), .int .u64 (s + 5), .int .u64 (s + 9)] 48)) := (Below.refl _ _).alloc (Nat.le_refl _) _
      have HT5 := Lib.hid (T4.below hA4)
      have HC5 := Lib.hid (row_see w4 (entS s))
      clear T4 F' hV hst' o4 hA4 HT HST
      go_upto_region 11 with (at_builtin; go_loud (refine wpList_append_own_at _ rfl (.tmp 33) (.tmp 38) 43 rfl W.heap.size 48 i0 _ 6 40 Tryd.underlying43 hi0 hz0 hz1 hz2 rfl (by decide) _ i (flatE (allE i)) rfl (own_all (HT5.out.rows (_, allE i) (by simp))) ⟨w4.heap.size, 0, none⟩ 1 1 (entS s).cells rfl rfl HC5.out (one_cell _) (by unfold maxLen; omega) (by omega) HT5.out.low.size ?_; intro v' w6 h6 g6 _ b6; have HT6 := Lib.hid (show TWo ⟨W, [(v', allE (i + 1))]⟩ W.heap.size p b G (fun q => ⟨H q, idleO⟩) X M' w6 from by rw [allE_succ, HSI.out]; exact (HT5.out.grow (ys := [entS s]) h1W (by rw [allE_len, flat_one]; exact h6) g6 b6 (by simp)).1); obtain ⟨A6, c6, rfl⟩ := ownsRow_form h6; clear h6 g6 b6 HT5 HC5))
      clear hsw
      obtain ⟨c5, hc5, e5⟩ := mod5n i
      have hc5' : (c5 : Int) < 5 := by omega
      have hc50 : (0 : Int) ≤ (c5 : Int) := by omega
      have hig : i < (allE (i + 1)).length := by rw [allE_len]; omega
      have hiw : (i : Int) < (i : Int) + 1 := by omega
      obtain ⟨Ah, ch, hvh, _⟩ := ((HT6.out.each c5 hc5).row).slice
      have hHl : (H c5).length ≤ 1000 := by have := held_len (HBG.out.inv (by omega)) hc5; dsimp only at this; omega
      have HHL := Lib.hid hHl
      have HTd := Lib.hid (HT6.out.below (Below.refl _ w6).drew)
      have hA6 : Below w6.heap.size w6 (w6.alloc (.cells #[.int .i64 s, .int .u32 (s + 3), .bool false, .int .u64 (s + 1), .int .u64 (s + 5), .int .u64 (s + 9)] 48)) := (Below.refl _ _).alloc (Nat.le_refl _) _
      have HTA := Lib.hid (HT6.out.below hA6.drew)
      have HC6 := Lib.hid (row_see w6.drew (entS s))
      have d0 := (HTd.out.cells hc5).1
      have f0 := (HTA.out.cells hc5).1
      rw [hvh] at d0 f0
      have hsix := (HTd.out.rows (.slice A6 (i + 1) c6, allE (i + 1)) (by simp)).see
      obtain ⟨g6, o6, hA6e⟩ := (hsix.addr (by omega)).2.2
      subst hA6e
      have hsx := hsix.six (j := i) hig
      rw [allE_at (by omega), HSI.out] at hsx
      obtain ⟨x0, x1, x2, x3, x4, x5⟩ := hsx
      have HVH := Lib.hid hvh
      clear hsix hA6 hvh hHl
      dsimp only [entS] at x0 x1 x2 x3 x4 x5
      have HRA := Lib.hid (show OwnE (w6.alloc (.cells #[.int .i64 s, .int .u32 (s + 3), .bool false, .int .u64 (s + 1), .int .u64 (s + 5), .int .u64 (s + 9)] 48)).drew W.heap.size (.slice Ah (H c5).length ch) (H c5) from by have := (HTA.out.each c5 hc5).row; rw [HVH.out] at this; exact this)
      have HCA := Lib.hid (show ∀ j u, (entS s).cells[j]? = some u → (w6.alloc (.cells #[.int .i64 s, .int .u32 (s + 3), .bool false, .int .u64 (s + 1), .int .u64 (s + 5), .int .u64 (s + 9)] 48)).drew.cell? ((⟨w6.heap.size, 0, none⟩ : Addr).add j) = some u from row_see w6 (entS s))
      clear HC6
      go_region_law ((refine step_append_at _ rfl (.tmp 48) (.tmp 53) 43 rfl W.heap.size 48 i0 _ 6 40 Tryd.underlying43 hi0 hz0 hz1 hz2 rfl (by decide) (.slice Ah (H c5).length ch) (H c5).length (flatE (H c5)) (by first | rfl | simp [Act.eval]) HRA.out ⟨w6.heap.size, 0, none⟩ 1 1 (entS s).cells (by first | rfl | simp [Act.eval]) rfl HCA.out (one_cell _) (by have := HHL.out; unfold maxLen; omega) (by have := HHL.out; omega) HTA.out.low.size ?_; intro v7 w7 h7 g7 b7; obtain ⟨A7, c7, rfl⟩ := ownsRow_form h7; have HK7 := Lib.hid (show _ ∧ _ ∧ _ from ⟨h7, g7, b7⟩); have hG7 := HTA.out.g.same (g7.block G HTA.out.g.lt fun e => (HT6.out.ne hc5 (TI.mem_h (by rw [HVH.out]; exact e.symm))).2.2 rfl); have y7 := (hG7.cell (c5 * 3)).trans (cellsT_at X hc5).1; have z7 := hG7.free (c5 * 3); clear h7 g7 b7 hG7))
      all_goals
        have HT8 := Lib.hid (show TWo ⟨W, [(.slice (some ⟨g6, o6, none⟩) (i + 1) c6, allE (i + 1))]⟩ W.heap.size p b G (fun q => ⟨updF H c5 (H c5 ++ [entS s]) q, idleO⟩) (updF X c5 ⟨.slice A7 ((H c5).length + 1) c7, (X c5).vg, (X c5).vt, (X c5).fp⟩) M' (w7.setCell ⟨G, c5 * 3, none⟩ (.slice A7 ((H c5).length + 1) c7)) from by
          rw [← upd_held]
          exact HTA.out.more (ys := [entS s]) h1W hc5 rfl (by rw [flat_one]; exact HK7.out.1) (by rw [HVH.out]; exact HK7.out.2.1) (by rw [HVH.out]; exact HK7.out.2.2))
        have HB8 := Lib.hid (show Beg (i + 1) M'.V (updF H c5 (H c5 ++ [entS s])) from by
          have := HBG.out.add (p := c5) (by omega) hc5
          rw [HSI.out] at this
          rw [HV.out]
          exact this)
        clear d0 f0 x0 x1 x2 x3 x4 x5 y7 z7 HK7
        go_wp2_with fail
        go_roundw
        case rel => exact ⟨i + 1, _, c6, by omega, rfl, by go_num, Lib.hid ⟨_, _, M', HT8.out, HB8.out, HST2.out⟩⟩
        case measure => simp [intOf]; omega
    · have hin : n = i := by omega
      subst hin
      have hnl : ¬ (n : Int) < (n : Int) := by omega
      have HA := Lib.hid (HR.out.toA hn40)
      clear HR hlt
      go_wp2_with fail
      go_loopw [10] (fun j wr => ∃ k : Nat, k ≤ l1.length ∧ j = .int .i64 (k : Int) ∧ Hid (OnA W p b G n (.slice Aa n ca) (200 + k) wr)) (fun j _ => l1.length + 1 - (intOf j).toNat)
      case atStart => exact ⟨0, Nat.zero_le _, rfl, Lib.hid (HA.out.mono (by omega))⟩
      case round =>
        clear HA
        obtain ⟨k, hk, rfl, HA⟩ := hrel
        rename World => w4
        have hgek : (0 : Int) ≤ (k : Int) := by omega
        by_cases hlk : k < l1.length
        · have hlk' : (k : Int) < (l1.length : Int) := by omega
          obtain ⟨gl, ol, rfl, hc⟩ := HS.out.at_ (k := k) (by rw [List.length_map]; exact hlk)
          have hcell : ∀ w : World, Below W.heap.size W w → w.cell? ⟨gl, ol + k, none⟩ = some (.int .u8 (l1.getD k 0)) := fun w hb => by
            have h0 := hc k (.int .u8 (l1.getD k 0)) (by simp [List.getD_eq_getElem?_getD, List.getElem?_eq_getElem hlk])
            exact (hb.cell (p := ⟨gl, ol + k, none⟩) (World.block_lt_of_cell? W _ h0)).trans h0
          have HCELL := Lib.hid hcell
          have hx8 := HU.out (l1.getD k 0) (by rw [List.getD_eq_getElem?_getD, List.getElem?_eq_getElem hlk]; simp)
          clear hcell hc
          generalize l1.getD k 0 = x at *
          obtain ⟨c5, hc5, e5⟩ := mod5u hx8
          have hc5' : (c5 : Int) < 5 := by omega
          have hc50 : (0 : Int) ≤ (c5 : Int) := by omega
          have hc5w : IntKind.u8.wrap (c5 : Int) = (c5 : Int) := by simp [IntKind.wrap, IntKind.bits, IntKind.signed]; omega
          have hk600 : (200 : Int) + k < 900000 := by omega
          have HX8 := Lib.hid hx8
          clear hx8
          have HAd := Lib.hid (HA.out.below (Below.refl _ w4).drew)
          have hs0 := Lib.hid (HCELL.out w4.drew HAd.out.low)
          clear HA
          go_wp2_with fail
          go_region_held3 (fun w9 => w9.cell? ⟨gl, ol + k, none⟩ = some (.int .u8 x))
            (first | exact hs0.out | exact hs1.out | fail)
            (first
              | (go_at_call 18; (with_reducible refine (HAd.out.act _ hn40 h1W hc5 hk600).mono ?_); rintro ee wA ⟨rfl, hA1⟩; have HA1 := Lib.hid hA1; have hs1 := Lib.hid (HCELL.out wA hA1.low); clear hA1)
              | fail)
          all_goals
            go_wp2_with fail
            go_roundw
            case rel => exact ⟨k + 1, by omega, by go_num, Lib.hid (HA1.out.mono (by push_cast; omega))⟩
            case measure => simp [intOf]; omega
        · have hkl : ¬ (k : Int) < (l1.length : Int) := by omega
          have HR0 := Lib.hid (show OnR W p b G n 0 (.slice Aa n ca) (.slice none 0 0) (1000 + 300 * ((0 : Nat) : Int)) w4 from (HA.out.mono (by omega)).toR)
          clear HA
          go_wp2_with fail
          go_loopw [11, 12] (fun r j wr => ∃ i m : Nat, ∃ Ar : Option Addr, ∃ cr : Nat, i ≤ 5 ∧ m ≤ 40 * i ∧ r = .slice Ar m cr ∧ j = .int .i64 (i : Int) ∧ Hid (OnR W p b G n i (.slice Aa n ca) (.slice Ar m cr) (1000 + 300 * (i : Int)) wr)) (fun _ j _ => 6 - (intOf j).toNat)
          case atStart => exact ⟨0, 0, none, 0, by omega, by omega, rfl, rfl, HR0⟩
          case round =>
            clear HR0
            obtain ⟨i, m, Ar, cr, hi5, hm40, rfl, rfl, HR⟩ := hrel
            rename World => w5
            have hgei : (0 : Int) ≤ (i : Int) := by omega
            have w5n : IntKind.i64.wrap (5 * (n : Int)) = 5 * (n : Int) := by simp [IntKind.wrap, IntKind.bits, IntKind.signed]; omega
            have w56 : IntKind.i64.wrap (5 * (n : Int) + 6) = 5 * (n : Int) + 6 := by simp [IntKind.wrap, IntKind.bits, IntKind.signed]; omega
            have w52 : IntKind.i64.wrap (5 * (n : Int) + 2) = 5 * (n : Int) + 2 := by simp [IntKind.wrap, IntKind.bits, IntKind.signed]; omega
            by_cases hlt5 : i < 5
            · have hlt5' : (i : Int) < 5 := by omega
              obtain ⟨m1, hI⟩ := HR.out.toI hlt5
              have HI0 := Lib.hid hI
              clear HR hI
              go_wp2_with fail
              go_loopw [13] (fun j wr => ∃ k : Nat, k ≤ 5 * n + 6 ∧ j = .int .i64 (k : Int) ∧ Hid (OnI W p b G n i k (.slice Aa n ca) (.slice Ar m cr) m1 (1000 + 300 * (i : Int)) wr)) (fun j _ => 5 * n + 7 - (intOf j).toNat)
              case atStart => exact ⟨0, by omega, rfl, HI0⟩
              case round =>
                clear HI0
                obtain ⟨q5, hq5, rfl, HI⟩ := hrel
                rename World => w6
                have hgeq : (0 : Int) ≤ (q5 : Int) := by omega
                rcases HI.out.cells hlt5 with ⟨⟨vg, vt, c1, c2, _, hk6, hvt, hvg⟩, hw⟩ | ⟨c1, c2, A, X, C, L, M, T, I, hq, hs, hap, hm⟩
                · have hk6' : (q5 : Int) < 5 * (n : Int) + 6 := by omega
                  have HW := Lib.hid hw
                  have HK6 := Lib.hid hk6
                  clear hw hk6
                  by_cases h0 : vg = none
                  · subst h0
                    obtain ⟨q9, rfl⟩ := hvt rfl
                    clear hvt hvg
                    go_wp2_with fail
                    ((with_reducible refine (HI.out.act hn40 h1W hlt5 (by omega) HW.out).mono ?_); rintro ee w7 ⟨rfl, hI7⟩)
                    have HI7 := Lib.hid hI7
                    clear hI7 c1 c2 HI HW
                    go_wp2_with fail
                    go_roundw
                    case rel => exact ⟨q5 + 1, by have := HK6.out; omega, by go_num, HI7⟩
                    case measure => simp [intOf]; have := HK6.out; omega
                  · obtain ⟨q9, rfl⟩ := hvg h0
                    clear hvt hvg h0
                    go_wp2_with fail
                    ((with_reducible refine (HI.out.act hn40 h1W hlt5 (by omega) HW.out).mono ?_); rintro ee w7 ⟨rfl, hI7⟩)
                    have HI7 := Lib.hid hI7
                    clear hI7 c1 c2 HI HW
                    go_wp2_with fail
                    go_roundw
                    case rel => exact ⟨q5 + 1, by have := HK6.out; omega, by go_num, HI7⟩
                    case measure => simp [intOf]; have := HK6.out; omega
                · have hlenr : (restH A i).length = m := by have := ((T.rows (.slice Ar m cr, restH A i) (by simp)).see).len; exact this.symm
                  have hhl := held_len I hlt5
                  obtain ⟨Ah, ch, hvh, _⟩ := ((T.each i hlt5).row).slice
                  have c0 := (T.cells hlt5).1
                  rw [hvh] at c0
                  have HT := Lib.hid T
                  have HIV := Lib.hid (And.intro I (And.intro hq (And.intro hs (And.intro hap hlenr))))
                  have HSE := Lib.hid (show SeeE w6 (.slice Ah (A i).held.length ch) (A i).held from by have := (T.each i hlt5).row.see; rw [hvh] at this; exact this)
                  have HHL := Lib.hid hhl
                  have hlr2 : m + (A i).held.length < 100000 := by omega
                  have HLR := Lib.hid hlr2
                  clear T I hq hs hap hm hvh hhl HI hlenr hlr2
                  by_cases hk6 : q5 < 5 * n + 6
                  · have hk6' : (q5 : Int) < 5 * (n : Int) + 6 := by omega
                    go_wp2_with (at_builtin; refine wpList_append_see hi0 hz0 hz1 hz2 rfl (.tmp 127) (.tmp 132) rfl W.heap.size (.slice Ar m cr) (restH A i) rfl (HT.out.rows (.slice Ar m cr, restH A i) (by simp)) (.slice Ah (A i).held.length ch) (A i).held rfl HSE.out (by have := HLR.out; have := HIV.out.2.2.2.2; omega) HT.out.low.size ?_; intro v' w7 h7 g7 b7; have HG7 := Lib.hid (HT.out.grow h1W h7 g7 b7 HIV.out.2.2.2.1); rw [HIV.out.2.2.2.2] at h7; obtain ⟨A7, c7, rfl⟩ := ownsRow_form h7; clear h7 g7 b7)
                    clear c0 c1 c2
                    go_roundw
                    case rel => exact ⟨i + 1, m + (A i).held.length, A7, c7, by omega, by have := HHL.out; omega, rfl, by go_num, Lib.hid ⟨A, X, C, L, M, HG7.out.1, HIV.out.1, HIV.out.2.1, by have := HIV.out.2.2.1; push_cast; omega, HG7.out.2⟩⟩
                    case measure => simp [intOf]; omega
                  · have hk6' : ¬ (q5 : Int) < 5 * (n : Int) + 6 := by omega
                    go_wp2_with (at_builtin; refine wpList_append_see hi0 hz0 hz1 hz2 rfl (.tmp 127) (.tmp 132) rfl W.heap.size (.slice Ar m cr) (restH A i) rfl (HT.out.rows (.slice Ar m cr, restH A i) (by simp)) (.slice Ah (A i).held.length ch) (A i).held rfl HSE.out (by have := HLR.out; have := HIV.out.2.2.2.2; omega) HT.out.low.size ?_; intro v' w7 h7 g7 b7; have HG7 := Lib.hid (HT.out.grow h1W h7 g7 b7 HIV.out.2.2.2.1); rw [HIV.out.2.2.2.2] at h7; obtain ⟨A7, c7, rfl⟩ := ownsRow_form h7; clear h7 g7 b7)
                    clear c0 c1 c2
                    go_roundw
                    case rel => exact ⟨i + 1, m + (A i).held.length, A7, c7, by omega, by have := HHL.out; omega, rfl, by go_num, Lib.hid ⟨A, X, C, L, M, HG7.out.1, HIV.out.1, HIV.out.2.1, by have := HIV.out.2.2.1; push_cast; omega, HG7.out.2⟩⟩
                    case measure => simp [intOf]; omega
            · have hi : i = 5 := by omega
              have hnl5 : ¬ (i : Int) < 5 := by omega
              have HR5 := Lib.hid (show OnR W p b G n 5 (.slice Aa n ca) (.slice Ar m cr) (1000 + 300 * ((5 : Nat) : Int)) w5 from hi ▸ HR.out)
              obtain ⟨A, X, C, L, M, T, I, hq, hst, hap⟩ := HR5.out
              have HRST := Lib.hid (I.rest hq)
              obtain ⟨N, o', M', E, hN1, hN2, hgot⟩ := last_take I hn40
              have hLn := I.stack_le
              have h1w5 : 1 < w5.heap.size := by have : W.heap.size ≤ w5.heap.size := T.low.size; omega
              have HMEM := Lib.hid T.mem
              have HROWS := Lib.hid (And.intro (T.rows (.slice Ar m cr, restH A 5) (by simp)) (T.rows (.slice Aa n ca, allE n) (by simp)))
              have HLOW := Lib.hid T.low
              have HPB := Lib.hid (And.intro T.pB T.bB)
              have HAP := Lib.hid (hap (.slice Aa n ca, allE n) (by simp))
              have HE := Lib.hid E
              have HGOT := Lib.hid hgot
              have HST := Lib.hid (show M.s.st ≤ 2500 from by push_cast at hst; omega)
              have hm200 : m ≤ 200 := by omega
              have hlenr : (restH A 5).length = m := by have := (HROWS.out.1.see).len; exact this.symm
              have HLR := Lib.hid hlenr
              have HLn := Lib.hid hLn
              clear HR HR5 T I hq hst hap E hgot hlenr hLn
              go_wp2_with fail
              ((with_reducible refine (newTake_all _).mono ?_); rintro ee w6 ⟨q, fp, rfl, hf6, R6, hb6⟩)
              have HS0 := Lib.hid (show ∃ o9 M9, SoleO w5 p b true q o9 M9 w6 ∧ M9.s.st ≤ M.s.st + ((0 : Nat) : Int) ∧ ((0 < N ∧ o9.ln ≠ 0 ∧ EndsO o9 M9 (N - 0) o' M') ∨ (0 = N ∧ o9 = o')) from ⟨newT, M, ⟨.newT, by decide, ⟨fp, hf6, R6⟩, HMEM.out.below hb6, .of_below hb6⟩, by simp, .inl ⟨by omega, by decide, HE.out⟩⟩)
              clear hf6 R6 hb6
              go_wp2_with fail
              go_loopw [15] (fun j wr => ∃ k : Nat, k ≤ N ∧ j = .int .i64 (k : Int) ∧ Hid (∃ o9 M9, SoleO w5 p b true q o9 M9 wr ∧ M9.s.st ≤ M.s.st + (k : Int) ∧ ((k < N ∧ o9.ln ≠ 0 ∧ EndsO o9 M9 (N - k) o' M') ∨ (k = N ∧ o9 = o')))) (fun j _ => N + 1 - (intOf j).toNat)
              case atStart => exact ⟨0, Nat.zero_le _, rfl, HS0⟩
              case round =>
                clear HS0
                obtain ⟨k, hk, rfl, HSk⟩ := hrel
                rename World => w7
                have hgek : (0 : Int) ≤ (k : Int) := by omega
                obtain ⟨o9, M9, S9, hs9, hc9⟩ := HSk.out
                have HS9 := Lib.hid S9
                have HST9 := Lib.hid hs9
                obtain ⟨fp9, hf9, R9⟩ := S9.rep
                have hov := Lib.hid (overT_all S9.num R9)
                clear S9 hs9 HSk hf9 R9
                rcases hc9 with ⟨hkN, hne, E9⟩ | ⟨hkN, he9⟩
                · have hk2 : (k : Int) < 5 * (n : Int) + 2 := by omega
                  have hz : (o9.ln == 0) = false := beq_eq_false_iff_ne.2 hne
                  rw [hz] at hov
                  have HE9 := Lib.hid E9
                  have HKN := Lib.hid hkN
                  have hstp := HS9.out.step h1w5 (by have := HST9.out; have := HST.out; omega)
                  rw [show fnO true = 19 from rfl] at hstp
                  have HSTP := Lib.hid hstp
                  clear hz hne E9 hkN hstp
                  go_wp2_with fail
                  ((with_reducible refine hov.out.mono ?_); rintro ee w8 ⟨rfl, rfl⟩)
                  go_wp2_with fail
                  ((with_reducible refine HSTP.out.mono ?_); rintro ee w9 ⟨rfl, h9⟩)
                  have HNX := Lib.hid (show ∃ o8 M8, SoleO w5 p b true q o8 M8 w9 ∧ M8.s.st ≤ M.s.st + ((k + 1 : Nat) : Int) ∧ ((k + 1 < N ∧ o8.ln ≠ 0 ∧ EndsO o8 M8 (N - (k + 1)) o' M') ∨ (k + 1 = N ∧ o8 = o')) from by
                    refine ⟨_, _, h9, ?_, ?_⟩
                    · have := oX_st o9 M9
                      have := HST9.out
                      push_cast
                      omega
                    · have h := HE9.out
                      have hkN := HKN.out
                      generalize hn9 : N - k = n9 at h
                      cases h with
                      | one _ => exact .inr ⟨by omega, rfl⟩
                      | @more _ _ n9 _ _ h5 h6 =>
                        have := h6.pos
                        refine .inl ⟨by omega, h5, ?_⟩
                        rw [show N - (k + 1) = n9 by omega]
                        exact h6)
                  clear h9 hov HSTP
                  go_wp2_with fail
                  go_roundw
                  case rel => exact ⟨k + 1, by have := HKN.out; omega, by go_num, HNX⟩
                  case measure => simp [intOf]; have := HKN.out; omega
                · have hzo : o9.ln = 0 := by rw [he9]; exact HE.out.over
                  have hz : (o9.ln == 0) = true := beq_iff_eq.2 hzo
                  rw [hz] at hov
                  have hgt := gotT_all HS9.out.num (HS9.out.rep.choose_spec.2)
                  rw [if_pos hzo, he9, HGOT.out] at hgt
                  have HGT := Lib.hid hgt
                  have HKN := Lib.hid hkN
                  clear hz hzo he9 hgt hkN
                  by_cases hk2 : (k : Int) < 5 * (n : Int) + 2
                  · go_wp2_with fail
                    ((with_reducible refine hov.out.mono ?_); rintro ee w8 ⟨rfl, rfl⟩)
                    go_wp2_with fail
                    ((with_reducible refine hov.out.mono ?_); rintro ee w8 ⟨rfl, rfl⟩)
                    go_wp2_with fail
                    ((with_reducible refine HGT.out.mono ?_); rintro ee w9 ⟨Ag, kg, xs, hxs, rfl, ho9, hb9⟩)
                    have HXS := Lib.hid hxs
                    clear hxs
                    have HR9 := Lib.hid ((HROWS.out.1.onl0 HMEM.out HS9.out.low).below hb9)
                    have HA9 := Lib.hid ((HROWS.out.2.onl0 HMEM.out HS9.out.low).below hb9)
                    have HG9 := Lib.hid ho9.see
                    have HL9 := Lib.hid (show Below W.heap.size W w9 from HLOW.out.trans ((HS9.out.low.below HPB.out.1 HPB.out.2 (by simp) HLOW.out.size).trans (hb9.mono (Nat.le_trans HLOW.out.size HS9.out.low.size))))
                    clear ho9 hb9 hov HGT
                    go_wp2_with (at_builtin; refine wpList_append_see hi0 hz0 hz1 hz2 rfl (.tmp 153) (.tmp 155) rfl W.heap.size (.slice Ar m cr) (restH A 5) rfl HR9.out (.slice Ag xs.length kg) xs rfl HG9.out (by have := HLR.out; have := HLn.out; rw [HXS.out, List.length_map]; omega) HL9.out.size ?_; intro v' w10 h10 g10 b10; have h10 : OwnE w10 W.heap.size v' (restL A L) := (by rw [← restH_5, ← HXS.out]; unfold OwnE; rw [List.length_append, flatE_app]; exact h10); have HA10 := Lib.hid (HA9.out.same fun y hy => g10.block y (HA9.out.lt hy) fun e => HAP.out y e.symm hy); have HL10 := Lib.hid (HL9.out.grown g10 HL9.out.size fun y hy => (HR9.out.bq hy).1); obtain ⟨A10, c10, hv10, _⟩ := h10.slice; rw [HRST.out.1] at hv10; subst hv10; have HR10 := Lib.hid h10; clear h10 g10 b10)
                    clear hk2 HR9 HA9 HG9
                    have hnn : ((n : Int) == (n : Int)) = true := beq_self_eq_true _
                    go_wp2_with fail
                    go_loopw [16] (fun j wr => ∃ i : Nat, i ≤ n ∧ j = .int .i64 (i : Int) ∧ Hid (Below w10.heap.size w10 wr)) (fun j _ => n + 1 - (intOf j).toNat)
                    case atStart => exact ⟨0, Nat.zero_le _, rfl, Lib.hid (Below.refl _ _)⟩
                    case round =>
                      obtain ⟨i6, hi6, rfl, HB6⟩ := hrel
                      rename World => w11
                      have hge6 : (0 : Int) ≤ (i6 : Int) := by omega
                      by_cases hlt6 : i6 < n
                      · have hlt6' : (i6 : Int) < (n : Int) := by omega
                        go_wp2_with fail
                        go_loopw [17, 18] (fun mny j w2 => ∃ k7 c7 : Nat, k7 ≤ n ∧ c7 ≤ k7 ∧ mny = .int .i64 (c7 : Int) ∧ j = .int .i64 (k7 : Int) ∧ Hid (Below w11.heap.size w11 w2 ∧ c7 = ((restL A L).take k7).count (entS (6 * (i6 : Int))))) (fun _ j _ => n + 1 - (intOf j).toNat)
                        case atStart => exact ⟨0, 0, Nat.zero_le _, Nat.le_refl _, rfl, rfl, Lib.hid ⟨Below.refl _ _, by simp⟩⟩
                        case round =>
                          obtain ⟨k7, c7, hk7, hc7, rfl, rfl, HB7⟩ := hrel
                          rename World => w12
                          have hge7 : (0 : Int) ≤ (k7 : Int) := by omega
                          by_cases hlt7 : k7 < n
                          · have hlt7' : (k7 : Int) < (n : Int) := by omega
                            have hB12 : Below w10.heap.size w10 w12 := HB6.out.trans (HB7.out.1.mono HB6.out.size)
                            have hsr := (HR10.out.below hB12).see
                            have hsa := (HA10.out.below hB12).see
                            obtain ⟨gr, ofr, rfl⟩ := (hsr.addr (by omega)).2.2
                            obtain ⟨ga, ofa, rfl⟩ := (hsa.addr (by omega)).2.2
                            obtain ⟨x0, x1, x2, x3, x4, x5⟩ := hsr.six (j := k7) (by rw [HRST.out.1]; exact hlt7)
                            obtain ⟨y0, y1, y2, y3, y4, y5⟩ := hsa.six (j := i6) (by rw [allE_len]; exact hlt6)
                            rw [allE_at hlt6] at y0 y1 y2 y3 y4 y5
                            obtain ⟨s6, hs6⟩ : ∃ s : Int, 6 * (i6 : Int) = s := ⟨_, rfl⟩
                            have HC7 := Lib.hid HB7.out.2
                            rw [hs6] at HC7
                            rw [hs6] at y0 y1 y2 y3 y4 y5
                            dsimp only [entS] at y0 y1 y2 y3 y4 y5
                            have HS6 := Lib.hid hs6
                            have HTK := Lib.hid (take_next (g := restL A L) (i := k7) (by rw [HRST.out.1]; exact hlt7))
                            have HB12 := Lib.hid HB7.out.1
                            generalize (restL A L).getD k7 EP.zero = x at *
                            obtain ⟨xs0, xg, xk, xb, xc, xd⟩ := x
                            dsimp only at x0 x1 x2 x3 x4 x5
                            have hqe := eql_ent xs0 xg xb xc xd s6 (s6 + 3) (s6 + 1) (s6 + 5) (s6 + 9) xk false
                            have hcw : IntKind.i64.wrap ((c7 : Int) + 1) = (c7 : Int) + 1 := by simp [IntKind.wrap, IntKind.bits, IntKind.signed]; omega
                            clear hs6 hsr hsa hB12 HB7
                            by_cases he : (⟨xs0, xg, xk, xb, xc, xd⟩ : EP) = ⟨s6, s6 + 3, false, s6 + 1, s6 + 5, s6 + 9⟩
                            · rw [decide_eq_true he] at hqe
                              have HEQ := Lib.hid he
                              clear he
                              go_wp2_with fail
                              go_quiet (fail)
                              have hbn := Lib.hid (HB12.out.trans ((below_drewN' (Below.refl _ w12) nq).mono HB12.out.size))
                              clear hqe x0 x1 x2 x3 x4 x5 y0 y1 y2 y3 y4 y5
                              go_wp2_with fail
                              go_roundw
                              case rel => exact ⟨k7 + 1, c7 + 1, by omega, by omega, by go_num, by go_num, Lib.hid ⟨hbn.out, by rw [HS6.out, HTK.out, List.count_append, ← HC7.out, HEQ.out]; simp [entS]⟩⟩
                              case measure => simp [intOf]; omega
                            · rw [decide_eq_false he] at hqe
                              have HEQ := Lib.hid he
                              clear he
                              go_wp2_with fail
                              go_quiet (fail)
                              have hbn := Lib.hid (HB12.out.trans ((below_drewN' (Below.refl _ w12) nq).mono HB12.out.size))
                              clear hqe x0 x1 x2 x3 x4 x5 y0 y1 y2 y3 y4 y5 hcw
                              go_wp2_with fail
                              go_roundw
                              case rel => exact ⟨k7 + 1, c7, by omega, by omega, rfl, by go_num, Lib.hid ⟨hbn.out, by rw [HS6.out, HTK.out, List.count_append, ← HC7.out, List.count_eq_zero_of_not_mem (by simp only [List.mem_singleton]; exact fun e => HEQ.out e.symm), Nat.add_zero]⟩⟩
                              case measure => simp [intOf]; omega
                          · have hk7n : k7 = n := by omega
                            have hnl7 : ¬ (k7 : Int) < (n : Int) := by omega
                            have hc1 : c7 = 1 := by
                              rw [HB7.out.2, hk7n, List.take_of_length_le (by rw [HRST.out.1]; exact Nat.le_refl _)]
                              exact HRST.out.2.2 i6 hlt6
                            have hc1' : (c7 : Int) = 1 := by omega
                            have HB13 := Lib.hid (HB6.out.trans (HB7.out.1.mono HB6.out.size))
                            clear hk7n hc1 HB7
                            go_wp2_with fail
                            go_roundw
                            case rel => exact ⟨i6 + 1, by omega, by go_num, HB13⟩
                            case measure => simp [intOf]; omega
                      · have hnl6 : ¬ (i6 : Int) < (n : Int) := by omega
                        have HW11 := Lib.hid (HL10.out.trans (HB6.out.mono HL10.out.size))
                        go_wp2_with fail
                        ((with_reducible refine (lives12_any (HLM.out.1.below HW11.out) (HLM.out.2.below HW11.out)).mono ?_); rintro e w13 ⟨rfl, hbl⟩)
                        go_wp2_with fail
                        go_ret
                        exact ⟨rfl, HW11.out.trans (hbl.mono HW11.out.size)⟩
                  · skip
                    go_wp2_with fail
                    ((with_reducible refine hov.out.mono ?_); rintro ee w8 ⟨rfl, rfl⟩)
                    go_wp2_with fail
                    ((with_reducible refine HGT.out.mono ?_); rintro ee w9 ⟨Ag, kg, xs, hxs, rfl, ho9, hb9⟩)
                    have HXS := Lib.hid hxs
                    clear hxs
                    have HR9 := Lib.hid ((HROWS.out.1.onl0 HMEM.out HS9.out.low).below hb9)
                    have HA9 := Lib.hid ((HROWS.out.2.onl0 HMEM.out HS9.out.low).below hb9)
                    have HG9 := Lib.hid ho9.see
                    have HL9 := Lib.hid (show Below W.heap.size W w9 from HLOW.out.trans ((HS9.out.low.below HPB.out.1 HPB.out.2 (by simp) HLOW.out.size).trans (hb9.mono (Nat.le_trans HLOW.out.size HS9.out.low.size))))
                    clear ho9 hb9 hov HGT
                    go_wp2_with (at_builtin; refine wpList_append_see hi0 hz0 hz1 hz2 rfl (.tmp 153) (.tmp 155) rfl W.heap.size (.slice Ar m cr) (restH A 5) rfl HR9.out (.slice Ag xs.length kg) xs rfl HG9.out (by have := HLR.out; have := HLn.out; rw [HXS.out, List.length_map]; omega) HL9.out.size ?_; intro v' w10 h10 g10 b10; have h10 : OwnE w10 W.heap.size v' (restL A L) := (by rw [← restH_5, ← HXS.out]; unfold OwnE; rw [List.length_append, flatE_app]; exact h10); have HA10 := Lib.hid (HA9.out.same fun y hy => g10.block y (HA9.out.lt hy) fun e => HAP.out y e.symm hy); have HL10 := Lib.hid (HL9.out.grown g10 HL9.out.size fun y hy => (HR9.out.bq hy).1); obtain ⟨A10, c10, hv10, _⟩ := h10.slice; rw [HRST.out.1] at hv10; subst hv10; have HR10 := Lib.hid h10; clear h10 g10 b10)
                    clear hk2 HR9 HA9 HG9
                    have hnn : ((n : Int) == (n : Int)) = true := beq_self_eq_true _
                    go_wp2_with fail
                    go_loopw [16] (fun j wr => ∃ i : Nat, i ≤ n ∧ j = .int .i64 (i : Int) ∧ Hid (Below w10.heap.size w10 wr)) (fun j _ => n + 1 - (intOf j).toNat)
                    case atStart => exact ⟨0, Nat.zero_le _, rfl, Lib.hid (Below.refl _ _)⟩
                    case round =>
                      obtain ⟨i6, hi6, rfl, HB6⟩ := hrel
                      rename World => w11
                      have hge6 : (0 : Int) ≤ (i6 : Int) := by omega
                      by_cases hlt6 : i6 < n
                      · have hlt6' : (i6 : Int) < (n : Int) := by omega
                        go_wp2_with fail
                        go_loopw [17, 18] (fun mny j w2 => ∃ k7 c7 : Nat, k7 ≤ n ∧ c7 ≤ k7 ∧ mny = .int .i64 (c7 : Int) ∧ j = .int .i64 (k7 : Int) ∧ Hid (Below w11.heap.size w11 w2 ∧ c7 = ((restL A L).take k7).count (entS (6 * (i6 : Int))))) (fun _ j _ => n + 1 - (intOf j).toNat)
                        case atStart => exact ⟨0, 0, Nat.zero_le _, Nat.le_refl _, rfl, rfl, Lib.hid ⟨Below.refl _ _, by simp⟩⟩
                        case round =>
                          obtain ⟨k7, c7, hk7, hc7, rfl, rfl, HB7⟩ := hrel
                          rename World => w12
                          have hge7 : (0 : Int) ≤ (k7 : Int) := by omega
                          by_cases hlt7 : k7 < n
                          · have hlt7' : (k7 : Int) < (n : Int) := by omega
                            have hB12 : Below w10.heap.size w10 w12 := HB6.out.trans (HB7.out.1.mono HB6.out.size)
                            have hsr := (HR10.out.below hB12).see
                            have hsa := (HA10.out.below hB12).see
                            obtain ⟨gr, ofr, rfl⟩ := (hsr.addr (by omega)).2.2
                            obtain ⟨ga, ofa, rfl⟩ := (hsa.addr (by omega)).2.2
                            obtain ⟨x0, x1, x2, x3, x4, x5⟩ := hsr.six (j := k7) (by rw [HRST.out.1]; exact hlt7)
                            obtain ⟨y0, y1, y2, y3, y4, y5⟩ := hsa.six (j := i6) (by rw [allE_len]; exact hlt6)
                            rw [allE_at hlt6] at y0 y1 y2 y3 y4 y5
                            obtain ⟨s6, hs6⟩ : ∃ s : Int, 6 * (i6 : Int) = s := ⟨_, rfl⟩
                            have HC7 := Lib.hid HB7.out.2
                            rw [hs6] at HC7
                            rw [hs6] at y0 y1 y2 y3 y4 y5
                            dsimp only [entS] at y0 y1 y2 y3 y4 y5
                            have HS6 := Lib.hid hs6
                            have HTK := Lib.hid (take_next (g := restL A L) (i := k7) (by rw [HRST.out.1]; exact hlt7))
                            have HB12 := Lib.hid HB7.out.1
                            generalize (restL A L).getD k7 EP.zero = x at *
                            obtain ⟨xs0, xg, xk, xb, xc, xd⟩ := x
                            dsimp only at x0 x1 x2 x3 x4 x5
                            have hqe := eql_ent xs0 xg xb xc xd s6 (s6 + 3) (s6 + 1) (s6 + 5) (s6 + 9) xk false
                            have hcw : IntKind.i64.wrap ((c7 : Int) + 1) = (c7 : Int) + 1 := by simp [IntKind.wrap, IntKind.bits, IntKind.signed]; omega
                            clear hs6 hsr hsa hB12 HB7
                            by_cases he : (⟨xs0, xg, xk, xb, xc, xd⟩ : EP) = ⟨s6, s6 + 3, false, s6 + 1, s6 + 5, s6 + 9⟩
                            · rw [decide_eq_true he] at hqe
                              have HEQ := Lib.hid he
                              clear he
                              go_wp2_with fail
                              go_quiet (fail)
                              have hbn := Lib.hid (HB12.out.trans ((below_drewN' (Below.refl _ w12) nq).mono HB12.out.size))
                              clear hqe x0 x1 x2 x3 x4 x5 y0 y1 y2 y3 y4 y5
                              go_wp2_with fail
                              go_roundw
                              case rel => exact ⟨k7 + 1, c7 + 1, by omega, by omega, by go_num, by go_num, Lib.hid ⟨hbn.out, by rw [HS6.out, HTK.out, List.count_append, ← HC7.out, HEQ.out]; simp [entS]⟩⟩
                              case measure => simp [intOf]; omega
                            · rw [decide_eq_false he] at hqe
                              have HEQ := Lib.hid he
                              clear he
                              go_wp2_with fail
                              go_quiet (fail)
                              have hbn := Lib.hid (HB12.out.trans ((below_drewN' (Below.refl _ w12) nq).mono HB12.out.size))
                              clear hqe x0 x1 x2 x3 x4 x5 y0 y1 y2 y3 y4 y5 hcw
                              go_wp2_with fail
                              go_roundw
                              case rel => exact ⟨k7 + 1, c7, by omega, by omega, rfl, by go_num, Lib.hid ⟨hbn.out, by rw [HS6.out, HTK.out, List.count_append, ← HC7.out, List.count_eq_zero_of_not_mem (by simp only [List.mem_singleton]; exact fun e => HEQ.out e.symm), Nat.add_zero]⟩⟩
                              case measure => simp [intOf]; omega
                          · have hk7n : k7 = n := by omega
                            have hnl7 : ¬ (k7 : Int) < (n : Int) := by omega
                            have hc1 : c7 = 1 := by
                              rw [HB7.out.2, hk7n, List.take_of_length_le (by rw [HRST.out.1]; exact Nat.le_refl _)]
                              exact HRST.out.2.2 i6 hlt6
                            have hc1' : (c7 : Int) = 1 := by omega
                            have HB13 := Lib.hid (HB6.out.trans (HB7.out.1.mono HB6.out.size))
                            clear hk7n hc1 HB7
                            go_wp2_with fail
                            go_roundw
                            case rel => exact ⟨i6 + 1, by omega, by go_num, HB13⟩
                            case measure => simp [intOf]; omega
                      · have hnl6 : ¬ (i6 : Int) < (n : Int) := by omega
                        have HW11 := Lib.hid (HL10.out.trans (HB6.out.mono HL10.out.size))
                        go_wp2_with fail
                        ((with_reducible refine (lives12_any (HLM.out.1.below HW11.out) (HLM.out.2.below HW11.out)).mono ?_); rintro e w13 ⟨rfl, hbl⟩)
                        go_wp2_with fail
                        go_ret
                        exact ⟨rfl, HW11.out.trans (hbl.mono HW11.out.size)⟩
end Go.Proofs.YtjpanofkikfeoaaDoor
