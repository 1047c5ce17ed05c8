/-
  The program's walk through a script's commands: each command in order, whatever the loop's body, as long as it leaves the iterator's own memory alone; conditions: the table of sizes reads as the program lays it; the bytes lie as it says.
-/
import Derived.Test.YtlgfdemggkiojaaDoorW3
import Derived.Outline
import Derived.LoopIn
namespace Go.Proofs.YtlgfdemggkiojaaDoor
open Go.RowKit

theorem grown_obj {X Y : World} {k : Nat} {o : Obj} (h : Grown X Y) (hk : X.heap[k]? = some o) : Y.heap[k]? = some o := (h.block k (Array.getElem?_eq_some_iff.1 hk).1).trans hk
set_option maxRecDepth 100000 in
set_option maxHeartbeats 4000000 in
theorem commands1 (W w0 : World) (n y B bx cap : Nat) (A : Option Addr) (l : List UInt8) (J : List Cm → World → Prop) (hJ : ∀ s X Y, J s X → Spare (RowOf B) W.heap.size X Y → J s Y)
    (hY : ∀ pre x W1, J pre W1 → pre.length < (parseC l).length → YieldAt Fence.wide (n - 1) Tryd.prog y #[x.v] W1 fun e W' => e = .returned (.bool true) ∧ J (pre ++ [x]) W' ∧ Kept B W1 W')
    (hg : Grown w0 W) (hlay : Lay w0) (hs : Sl w0 A l) (hA : l ≠ [] → ∀ a, A = some a → a.block < B) (hB0 : 0 < B) (hbx : B < bx) (hbox : w0.heap[bx]? = some (.cells #[.slice A l.length cap] 22 (0, 0)))
    (hnil : w0.cell? ⟨B, 0, none⟩ = some (.slice none 0 0)) (hn : l.length ≤ cap) (hc : cap ≤ 9223372036854775807) (hn1 : 1 ≤ n) (h0 : J [] W) :
    CallsIn Fence.wide n Tryd.prog 33 #[.func (.yield y) #[] #[], .pointer (some ⟨bx, 0, none⟩)] W fun e W' => (∃ v, e = .returned v) ∧ ∃ xs, xs = parseC l ∧ J xs W' := by
  have hbW := grown_obj hg hbox
  have hcb : W.cell? ⟨bx, 0, none⟩ = some (.slice A l.length cap) := by rw [cell_of_row _ _ _ _ _ _ hbW]; rfl
  have hnx : Calls Tryd.prog 12 #[.slice A l.length cap, .int .i64 0] W _ := next_any A cap l 0 W (hlay.below hg) (hs.below hg) hn hc
  have HNX := Lib.hid hnx
  have HBW := Lib.hid hbW
  have HJ := Lib.hid hJ
  have HY := Lib.hid hY
  have HG := Lib.hid hg
  have HBOX := Lib.hid hbox
  have HNIL := Lib.hid hnil
  have HLAY := Lib.hid hlay
  have HS := Lib.hid hs
  have HA := Lib.hid hA
  have H0 := Lib.hid h0
  obtain ⟨c0, hc0⟩ : ∃ c0, curC l 0 = c0 := ⟨_, rfl⟩
  obtain ⟨b0, hb0⟩ : ∃ b0, decide (0 < (l.take most).length) = b0 := ⟨_, rfl⟩
  have HC0 := Lib.hid hc0
  have HB0 := Lib.hid hb0
  have HNX2 : Hid (Calls Tryd.prog 12 #[.slice A l.length cap, .int .i64 0] W fun e w' => e = .returned (.tuple #[c0.v, .bool b0]) ∧ Below W.heap.size W w') := by
    rw [← hc0, ← hb0]
    exact HNX.out
  clear hnx HNX hbW hJ hY hg hbox hnil hlay hs hA h0 hc0 hb0
  refine callsIn_of_wp Tryd.func33 rfl trivial ?_ rfl
  simp only [Tryd.ntmps33, List.size_toArray, List.length_cons, List.length_nil, Nat.reduceAdd, Nat.reduceSub, Array.replicate_succ, Array.replicate_zero, List.push_toArray, List.append_toArray, List.nil_append, List.cons_append]
  gi_wp2_with (refine ⟨trivial, ?_⟩; gi_at_call 12; refine (callsIn_wide.2 HNX2.out).mono ?_; rintro e w1 ⟨rfl, hb1⟩; have HB1 := Lib.hid hb1; clear hb1; simp only [Cm.v])
  have hgx : Grown W (w1.alloc (.cells (vC c0).toArray 34)) := Grown.trans HB1.out (Grown.alloc _ _)
  have hqx : (w1.alloc (.cells (vC c0).toArray 34)).heap[w1.heap.size]? = some (.cells (vC c0).toArray 34 (0, 0)) := heap_alloc_new w1 _
  have hWq : W.heap.size ≤ w1.heap.size := HB1.out.size
  have hbq : bx < w1.heap.size := Nat.lt_of_lt_of_le (Array.getElem?_eq_some_iff.1 HBW.out).1 HB1.out.size
  have HX := Lib.hid hgx
  have HQX := Lib.hid hqx
  have hbq' := hbq
  have hWq' := hWq
  clear hgx hqx HB1 hcb
  change Code.wpIn _ _ _ _ _ _ (w1.alloc (.cells (vC c0).toArray 34))
  revert HX HQX hbq' hWq'
  generalize w1.alloc (.cells (vC c0).toArray 34) = wx
  clear hbq hWq
  generalize w1.heap.size = q
  intro HX HQX hbq hWq
  have hit : It w0 B bx q (.slice A l.length cap) l J [] 0 b0 wx := by
    have hgw := Grown.trans HG.out HX.out
    have hcell : wx.cell? ⟨B, 0, none⟩ = some (.slice none 0 0) := (World.cell?_of_block (a := ⟨B, 0, none⟩) (hgw.block B (World.block_lt_of_cell? w0 _ HNIL.out))).trans HNIL.out
    refine ⟨⟨World.block_lt_of_cell? wx _ hcell, hbx, hbq, fun k o _ ho _ => grown_obj hgw ho, grown_obj hgw HBOX.out, ⟨c0, HQX.out⟩, fun k hk => ?_⟩, HB0.out.symm, ?_, Nat.zero_le _, by rw [List.drop_zero, List.nil_append]; rfl, HJ.out _ _ _ H0.out (Spare.of_grown HX.out)⟩
    · obtain ⟨v, hv, hk⟩ := hk
      rw [hcell] at hv
      cases hv
      cases hk
    · rw [HC0.out]
      exact HQX.out
  have HIT := Lib.hid hit
  clear hit HC0 HB0 HQX HX HBW H0 HNIL HBOX HNX2
  gi_loopw [4] (fun ok wr => ∃ (pre : List Cm) (p : Nat) (b : Bool), ok = .bool b ∧ It w0 B bx q (.slice A l.length cap) l J pre p b wr) (fun ok wr => leftOf l q ok wr)
  case atStart => exact ⟨[], 0, b0, rfl, HIT.out⟩
  case round =>
    obtain ⟨pre, p, b, rfl, hr⟩ := hrel
    have HR := Lib.hid hr
    clear hr
    cases b with
    | true =>
      have hp : p < (l.take most).length := by
        have := HR.out.is
        simpa using this.symm
      have hlen : pre.length < (parseC l).length := by
        rw [HR.out.eq, parse_step _ _ hp, List.length_append, List.length_cons]
        omega
      obtain ⟨fn, tmps, assign, body, hy, hR⟩ := HY.out pre (curC l p) wr HR.out.j hlen
      have HRR := Lib.hid hR
      obtain ⟨y0, y1, y2, y3, y4, y5, y6, y7, y8, _⟩ := Box9.cells (show Box9 wr q 34 _ _ _ _ _ _ _ _ _ from HR.out.cur)
      have hto := curC_to hp
      obtain ⟨c, hcd⟩ : ∃ c, curC l p = c := ⟨_, rfl⟩
      rw [hcd] at hy y0 y1 y2 y3 y4 y5 y6 y7 y8 hto
      have HC := Lib.hid hcd
      have HT := Lib.hid hto
      simp only [Cm.v] at hy
      clear hcd hto hR hlen
      gi_wp2_with fail
      refine HRR.out.mono ?_
      rintro e W3 ⟨rfl, hJ3, hk3⟩
      have hd := dlen_bd _ (drop_ne hp)
      rw [List.length_drop] at hd
      obtain ⟨d, hde⟩ : ∃ d, dlen ((l.take most).drop p) = d := ⟨_, rfl⟩
      rw [hde] at hd
      have HD := Lib.hid hde
      have hcore := HR.out.core.kept hk3
      have hq3 := HR.out.core.var hk3 HR.out.cur
      rw [HC.out] at hq3 hJ3
      have z2 : W3.cell? ⟨q, 2, none⟩ = some (.int .i64 c.to) := by
        rw [cell_of_row _ _ _ _ _ _ hq3]
        rfl
      have zb : W3.cell? ⟨bx, 0, none⟩ = some (.slice A l.length cap) := by
        rw [cell_of_row _ _ _ _ _ _ hcore.box]
        rfl
      have hnx := next_any A cap l (p + d) W3 (hcore.lay hB0 HLAY.out) (hcore.sl HS.out HA.out) hn hc
      rw [← HD.out, ← HT.out, HD.out] at hnx
      obtain ⟨c2, hc2⟩ : ∃ c2, curC l (p + d) = c2 := ⟨_, rfl⟩
      obtain ⟨b2, hb2⟩ : ∃ b2, decide (p + d < (l.take most).length) = b2 := ⟨_, rfl⟩
      rw [hc2, hb2] at hnx
      have HN := Lib.hid hnx
      have HC2 := Lib.hid hc2
      have HB2 := Lib.hid hb2
      have HCO := Lib.hid hcore
      have HQ3 := Lib.hid hq3
      have HJ3 := Lib.hid hJ3
      clear hde hcore hq3 hJ3 hnx hc2 hb2 hk3 y0 y1 y2 y3 y4 y5 y6 y7 y8 hy HRR
      gi_wp2_with (first
        | (refine ⟨trivial, ?_⟩; gi_at_call 12; refine (callsIn_wide.2 HN.out).mono ?_; rintro e w4 ⟨rfl, hb4⟩; have HB4 := Lib.hid hb4; have HQ4 := Lib.hid (grown_obj hb4 HQ3.out); clear hb4; simp only [Cm.v])
        | (refine wpListIn_store_put rfl 34 (.tmp 3) (.tmp 21) rfl q rfl _ rfl 34 _ HQ4.out isz34 rfl rfl ?_; intro w5 hp5; have HP5 := Lib.hid hp5; clear hp5))
      go_roundw
      case rel =>
        have hco4 := HCO.out.grown HB4.out
        have hp5 := HP5.out
        have hco5 := hco4.put (c := c2) hp5
        have hj4 := HJ.out _ _ _ HJ3.out (Spare.of_grown HB4.out)
        have hsp : Spare (RowOf B) W.heap.size w4 w5 := ⟨hp5.os, hp5.tape, hp5.output, Nat.le_of_eq hp5.size.symm, fun k hk _ => hp5.far k (by omega), fun k hk _ => hp5.far k fun e => (hco4.rows k hk).2.2 e⟩
        refine ⟨pre ++ [c], p + d, b2, rfl, hco5, HB2.out.symm, ?_, by omega, ?_, HJ.out _ _ _ hj4 hsp⟩
        · rw [HC2.out]
          exact hp5.at_
        · have he := HR.out.eq
          rw [parse_step _ _ hp, ← curC_in hp, HC.out, HD.out] at he
          rw [he, List.append_assoc]
          rfl
      case measure =>
        have h1 := leftOf_at HR.out.cur hp
        rw [show leftOf l q (Value.bool true) wr = (l.take most).length + 1 - p from h1]
        cases b2 with
        | true =>
          have hp2 : p + d < (l.take most).length := by simpa using HB2.out
          have h2 : leftOf l q (Value.bool true) w5 = (l.take most).length + 1 - (p + d) := leftOf_at (by rw [HC2.out]; exact HP5.out.at_) hp2
          rw [h2]
          omega
        | false =>
          show 0 < _
          omega
    | false =>
      have hp : ¬ p < (l.take most).length := by
        have := HR.out.is
        simpa using this.symm
      gi_wp2
      refine ⟨fun _ h => (by cases h), ?_⟩
      gi_wp2
      go_end0
      refine ⟨⟨_, rfl⟩, parseC l, rfl, ?_⟩
      have h := HR.out.eq
      rw [parse_end _ _ hp, List.append_nil] at h
      rw [h]
      exact HR.out.j
/-- The iterator's contract. -/
theorem commands_yields (w0 : World) (n B bx cap : Nat) (A : Option Addr) (l : List UInt8) (hlay : Lay w0) (hs : Sl w0 A l) (hA : l ≠ [] → ∀ a, A = some a → a.block < B) (hB0 : 0 < B) (hbx : B < bx)
    (hbox : w0.heap[bx]? = some (.cells #[.slice A l.length cap] 22 (0, 0))) (hnil : w0.cell? ⟨B, 0, none⟩ = some (.slice none 0 0)) (hn : l.length ≤ cap) (hc : cap ≤ 9223372036854775807) (hn1 : 1 ≤ n) :
    YieldsC n Tryd.prog 33 #[.pointer (some ⟨bx, 0, none⟩)] (fun c : Cm => #[c.v]) (Kept B) (RowOf B) (fun xs => xs = parseC l) (parseC l).length w0 := fun y J W hW hJ hY h0 =>
  commands1 W w0 n y B bx cap A l J hJ hY hW hlay hs hA hB0 hbx hbox hnil hn hc hn1 h0
end Go.Proofs.YtlgfdemggkiojaaDoor
