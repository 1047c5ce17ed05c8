/-
  The document's sweep; condition: the list and the bools lie as they say.
-/
import Derived.Test.YthcclgnadhcndaaRD2
namespace Go.Proofs.Ythcclgnadhcndaa
open Go.RowKit Go.Maps

/-- Two rows of the call's own, apart. -/
structure Two (w0 : World) (va vb : Value) (xa xb : List EP) (wr : World) : Prop where
  low : Below w0.heap.size w0 wr
  a : OwnE wr w0.heap.size va xa
  b : OwnE wr w0.heap.size vb xb
  ap : ∀ x, va.ownBlock = some x → vb.ownBlock ≠ some x
section
variable {w0 w w' : World} {va vb v' : Value} {xa xb : List EP} {e : EP}
theorem Two.start (w : World) : Two w (.slice none 0 0) (.slice none 0 0) [] [] w := ⟨.refl _ _, .nil _ _, .nil _ _, fun _ h => by cases h⟩
theorem Two.swap (h : Two w0 va vb xa xb w) : Two w0 vb va xb xa w := ⟨h.low, h.b, h.a, fun x hb ha => h.ap x ha hb⟩
theorem Two.below (h : Two w0 va vb xa xb w) (hb : Below w.heap.size w w') : Two w0 va vb xa xb w' := ⟨h.low.trans (hb.mono h.low.size), h.a.below hb, h.b.below hb, h.ap⟩
theorem Two.push (h : Two w0 va vb xa xb w) (ho : w'.ownsRow w0.heap.size 34 6 v' (xa.length + [e].length) (flatE xa ++ flatE [e])) (hg : w.grownBy w' va.ownBlock) (hb : v'.ownBlock = va.ownBlock ∨ v'.ownBlock = some w.heap.size) : Two w0 v' vb (xa ++ [e]) xb w' := by
  refine ⟨h.low.grown hg h.low.size fun x hx => (h.a.bq hx).1, ?_, h.b.same fun x hx => hg.block x (h.b.lt hx) fun e => h.ap x (Eq.symm e) hx, fun x hx hx2 => ?_⟩
  · unfold OwnE
    rw [flatE_app, List.length_append]
    exact ho
  · rcases hb with hb | hb
    · exact h.ap x (hb ▸ hx) hx2
    · have := h.b.lt hx2
      rw [hb] at hx
      injection hx with hx
      omega
/-- An entry just built is a row that is read. -/
theorem see_one (w : World) (es eg eb ec ed : Int) (ek : Bool) : SeeE (w.alloc (.cells #[.int .i64 es, .int .u32 eg, .bool ek, .int .u64 eb, .int .u64 ec, .int .u64 ed] 34)) (.slice (some ⟨w.heap.size, 0, none⟩) 1 1) [⟨es, eg, ek, eb, ec, ed⟩] := by
  refine .inr ⟨w.heap.size, 0, 1, rfl, Nat.le_refl _, by decide, fun j u hj => ?_⟩
  rw [flat_one] at hj
  rw [Nat.zero_add]
  exact ((Bq.new w (EP.cells ⟨es, eg, ek, eb, ec, ed⟩) 34).cell j).trans hj
end
section
variable {w w' : World} {B K : Nat} {v v' : Value} {l : List EP} {bs : List Bool}
theorem fB_at {i : Nat} (h : ¬ i < bs.length) : fB bs i = false := by
  unfold fB
  rw [List.getD_eq_getElem?_getD, List.getElem?_eq_none (by omega)]
  rfl
set_option maxRecDepth 100000 in
set_option maxHeartbeats 16000000 in
theorem docSweep {A Ab : Option Addr} {n c nb cb : Nat} (h : DL B K (.slice A n c) l w) (hb : BoolV w (.slice Ab nb cb) bs) (hn : n < 1000) : Calls Try.prog 11 #[.pointer (some ⟨K, 0, none⟩), .slice Ab nb cb] w fun e w' => ∃ vo vl, e = .returned vo ∧ DL w.heap.size K vl (leftE l (fB bs) l.length) w' ∧ OwnE w' w.heap.size vo (outE l (fB bs) l.length) ∧ (∀ x, vo.ownBlock = some x → vl.ownBlock ≠ some x) ∧ Kp [K] w w' := by
  obtain ⟨i0, hi0, hz0, hz1, hz2⟩ := info_parts infoE
  have HN := Lib.hid h.row.see.len
  have HNB := Lib.hid hb.len
  have HW := Lib.hid h
  have HV := Lib.hid hb
  clear h hb
  go_enter Try.func11, Try.ntmps11
  go_wp2_with fail
  go_loopw [5, 6, 7] (fun vo vl j wr => ∃ i : Nat, i ≤ n ∧ j = .int .i64 (i : Int) ∧ Hid (Two w vo vl (outE l (fB bs) i) (leftE l (fB bs) i) wr)) (fun _ _ j _ => n - (intOf j).toNat)
  case atStart => exact ⟨0, Nat.zero_le _, rfl, Lib.hid (.start w)⟩
  case round =>
    obtain ⟨i, hi, rfl, HR⟩ := hrel
    rename World => wr
    obtain ⟨Ao, ko, rfl, hok, hok9, _⟩ := HR.out.a.slice
    obtain ⟨Al, kl, rfl, hlk, hlk9, _⟩ := HR.out.b.slice
    have hge : (0 : Int) ≤ (i : Int) := by omega
    have HD := Lib.hid (HW.out.below HR.out.low)
    have hc := HD.out.k.cell 0
    have hz := HD.out.k.free 0
    dsimp only [List.getElem?_cons_zero] at hc
    have hlo := Lib.hid (out_left l (fB bs) i)
    by_cases hlt : i < n
    · have hlt' : (i : Int) < (n : Int) := by omega
      have hig : i < l.length := by have := HN.out; omega
      obtain ⟨hc0, hc1, g1, o1, rfl⟩ := HD.out.row.see.addr (by omega)
      obtain ⟨y0, y1, y2, y3, y4, y5⟩ := HD.out.row.see.six hig
      have HOS := Lib.hid (out_succ l (fB bs) i)
      have HLS := Lib.hid (left_succ l (fB bs) i)
      generalize hev : l.getD i EP.zero = ev at *
      obtain ⟨es, eg, ek, eb, ec, ed⟩ := ev
      dsimp only at y0 y1 y2 y3 y4 y5
      have hA0 : Below wr.heap.size wr (wr.alloc (.cells #[.int .i64 es, .int .u32 eg, .bool ek, .int .u64 eb, .int .u64 ec, .int .u64 ed] 34)) := (Below.refl _ _).alloc (Nat.le_refl _) _
      have HT := Lib.hid (HR.out.below hA0)
      have HSE := Lib.hid (see_one wr es eg eb ec ed ek)
      clear hev hA0
      by_cases hib : i < nb
      · have hib' : (i : Int) < (nb : Int) := by omega
        have hbs := (HV.out.below HR.out.low).see (by omega)
        obtain ⟨hcb0, hcb1, g2, o2, rfl⟩ := hbs.addr (by omega)
        have x0 := hbs.at_ (j := i) (by have := HNB.out; omega)
        clear hbs
        generalize hf : bs.getD i false = f at *
        have HF := Lib.hid (show fB bs i = f from hf)
        clear hf
        cases f
        · have e1 : outE l (fB bs) (i + 1) = outE l (fB bs) i := by rw [HOS.out, HF.out]; simp
          have e2 : leftE l (fB bs) (i + 1) = leftE l (fB bs) i ++ [⟨es, eg, ek, eb, ec, ed⟩] := by rw [HLS.out, HF.out]; rfl
          have E1 := Lib.hid e1
          have E2 := Lib.hid e2
          clear e1 e2
          go_wp2_with (at_builtin; refine wpList_append_see hi0 hz0 hz1 hz2 rfl (.tmp 37) (.tmp 45) rfl w.heap.size (.slice Al (leftE l (fB bs) i).length kl) (leftE l (fB bs) i) rfl HT.out.swap.a (.slice (some ⟨wr.heap.size, 0, none⟩) 1 1) [⟨es, eg, ek, eb, ec, ed⟩] rfl HSE.out (by have := hlo.out; simp only [List.length_singleton]; omega) HT.out.low.size ?_; intro v' w7 h7 g7 b7; have HT7 := Lib.hid (HT.out.swap.push h7 g7 b7); clear h7 g7 b7)
          go_roundw
          case rel => exact ⟨i + 1, by omega, by go_num, Lib.hid (by rw [E1.out, E2.out]; exact HT7.out.swap)⟩
          case measure => simp [intOf]; omega
        · have e1 : outE l (fB bs) (i + 1) = outE l (fB bs) i ++ [⟨es, eg, ek, eb, ec, ed⟩] := by rw [HOS.out, HF.out]; rfl
          have e2 : leftE l (fB bs) (i + 1) = leftE l (fB bs) i := by rw [HLS.out, HF.out]; simp
          have E1 := Lib.hid e1
          have E2 := Lib.hid e2
          clear e1 e2
          go_wp2_with (at_builtin; refine wpList_append_see hi0 hz0 hz1 hz2 rfl (.tmp 27) (.tmp 35) rfl w.heap.size (.slice Ao (outE l (fB bs) i).length ko) (outE l (fB bs) i) rfl HT.out.a (.slice (some ⟨wr.heap.size, 0, none⟩) 1 1) [⟨es, eg, ek, eb, ec, ed⟩] rfl HSE.out (by have := hlo.out; simp only [List.length_singleton]; omega) HT.out.low.size ?_; intro v' w7 h7 g7 b7; have HT7 := Lib.hid (HT.out.push h7 g7 b7); clear h7 g7 b7)
          go_roundw
          case rel => exact ⟨i + 1, by omega, by go_num, Lib.hid (by rw [E1.out, E2.out]; exact HT7.out)⟩
          case measure => simp [intOf]; omega
      · have hnib : ¬ (i : Int) < (nb : Int) := by omega
        have HF := Lib.hid (fB_at (bs := bs) (i := i) (by have := HNB.out; omega))
        have e1 : outE l (fB bs) (i + 1) = outE l (fB bs) i := by rw [HOS.out, HF.out]; simp
        have e2 : leftE l (fB bs) (i + 1) = leftE l (fB bs) i ++ [⟨es, eg, ek, eb, ec, ed⟩] := by rw [HLS.out, HF.out]; rfl
        have E1 := Lib.hid e1
        have E2 := Lib.hid e2
        clear e1 e2
        go_wp2_with (at_builtin; refine wpList_append_see hi0 hz0 hz1 hz2 rfl (.tmp 37) (.tmp 45) rfl w.heap.size (.slice Al (leftE l (fB bs) i).length kl) (leftE l (fB bs) i) rfl HT.out.swap.a (.slice (some ⟨wr.heap.size, 0, none⟩) 1 1) [⟨es, eg, ek, eb, ec, ed⟩] rfl HSE.out (by have := hlo.out; simp only [List.length_singleton]; omega) HT.out.low.size ?_; intro v' w7 h7 g7 b7; have HT7 := Lib.hid (HT.out.swap.push h7 g7 b7); clear h7 g7 b7)
        go_roundw
        case rel => exact ⟨i + 1, by omega, by go_num, Lib.hid (by rw [E1.out, E2.out]; exact HT7.out.swap)⟩
        case measure => simp [intOf]; omega
    · have hin : i = n := by omega
      have hnl : ¬ (i : Int) < (n : Int) := by omega
      have hie : i = l.length := by have := HN.out; omega
      have HKK := Lib.hid HW.out.k.lt
      have HKD := Lib.hid HD.out.k
      have HRE := Lib.hid HR.out
      rw [hie] at HRE
      have hnl2 : ¬ ((l.length : Nat) : Int) < (n : Int) := by have := HN.out; omega
      rw [hie]
      clear hin HR hie hlo
      go_wp2_with fail
      go_ret
      have far : ∀ (v : Value) xs y, OwnE wr w.heap.size v xs → v.ownBlock = some y → (wr.setCell ⟨K, 0, none⟩ (.slice Al (leftE l (fB bs) l.length).length kl)).heap[y]? = wr.heap[y]? := fun v xs y ho hy => Below.heap_setCell wr ⟨K, 0, none⟩ _ y fun e => by
        have := (ho.bq hy).1
        have := HKK.out
        have e : y = K := e
        omega
      exact ⟨_, rfl, _, ⟨HKD.out.set 0 _ rfl, HRE.out.b.same fun y hy => far _ _ y HRE.out.b hy⟩, HRE.out.a.same fun y hy => far _ _ y HRE.out.a hy, HRE.out.ap, (Kp.of_below HRE.out.low).trans (.setCell _ (by simp) 0 _)⟩
end
end Go.Proofs.Ythcclgnadhcndaa
