/-
  The landed package's list: a sweep; condition: the list and the bools lie as they say.
-/
import Derived.Test.YthcclgnadhcndaaRK6
namespace Go.Proofs.Ythcclgnadhcndaa
open Go.RowKit Go.Maps

/-- What a sweep has left so far, and what it did not see yet. -/
def restE (l : List EP) (f : Nat → Bool) (i : Nat) : List EP := leftE l f i ++ l.drop i
section
variable {l : List EP} {f : Nat → Bool} {i : Nat}
theorem rest_end : restE l f l.length = leftE l f l.length := by simp [restE]
theorem rest_at (hi : i < l.length) : restE l f i = leftE l f i ++ l.getD i EP.zero :: l.drop (i + 1) := by
  unfold restE
  rw [List.drop_eq_getElem_cons hi, List.getD_eq_getElem?_getD, List.getElem?_eq_getElem hi]
  rfl
theorem rest_stay (hi : i < l.length) (hf : f i = false) : restE l f (i + 1) = restE l f i := by
  rw [rest_at hi]
  unfold restE
  rw [left_succ, if_neg (by rw [hf]; decide), List.append_assoc]
  rfl
theorem rest_out (hf : f i = true) : restE l f (i + 1) = leftE l f i ++ l.drop (i + 1) := by
  unfold restE
  rw [left_succ, if_pos hf, List.append_nil]
theorem rest_sub (hi : i ≤ l.length) : (restE l f i).Sublist l := by
  have h := (left_take l f i hi).append (List.Sublist.refl (l.drop i))
  rwa [List.take_append_drop] at h
/-- One that goes: whose refs are left. -/
theorem rest_mem (I : InvR l) (hi : i < l.length) (hf : f i = true) (r : RP) : r ∈ ((restE l f i).map EP.ref).filter (fun x => decide (x ≠ (l.getD i EP.zero).ref)) ↔ r ∈ (restE l f (i + 1)).map EP.ref := by
  have hn : ((restE l f i).map EP.ref).Nodup := List.Nodup.sublist ((rest_sub (f := f) (Nat.le_of_lt hi)).map EP.ref) I.nd
  rw [rest_out hf]
  rw [rest_at hi] at hn ⊢
  generalize leftE l f i = a at *
  generalize l.drop (i + 1) = d at *
  generalize l.getD i EP.zero = e at *
  rw [List.map_append, List.map_cons, List.nodup_append] at hn
  obtain ⟨_, h2, h3⟩ := hn
  rw [List.nodup_cons] at h2
  rw [List.mem_filter, List.map_append, List.map_cons, List.map_append, List.mem_append, List.mem_append, List.mem_cons]
  simp only [decide_eq_true_eq]
  constructor
  · rintro ⟨h | h | h, hne⟩
    · exact .inl h
    · exact absurd h hne
    · exact .inr h
  · rintro (h | h)
    · exact ⟨.inl h, fun e1 => h3 r h e.ref List.mem_cons_self e1⟩
    · exact ⟨.inr (.inr h), fun e1 => h2.1 (e1 ▸ h)⟩
theorem rest_len (hi : i < l.length) (hf : f i = true) : (restE l f i).length = (restE l f (i + 1)).length + 1 := by
  rw [rest_out hf, rest_at hi, List.length_append, List.length_append, List.length_cons]
  omega
end
theorem size_al (w : World) (o : Obj) : (w.alloc o).heap.size = w.heap.size + 1 := by
  show (w.heap.push o).size = _
  simp
section
variable {w0 w w' : World} {b : Nat} {va vb v v' : Value} {xa xb rs : List EP} {e : EP} {bs : List Bool}
theorem Kp.cell {E : List Nat} (k : Kp E w w') {p : Addr} (hp : p.block < w.heap.size) (he : p.block ∉ E) : w'.cell? p = w.cell? p := by
  unfold World.cell?
  rw [k.block _ hp he]
theorem MapU.nocell {n : Nat} {r : List RP} (h : MapU b n r w) (i : Nat) : w.cell? ⟨b, i, none⟩ = none := by
  obtain ⟨D, ⟨es, clock, hb, _⟩, _⟩ := h
  simp [World.cell?, hb]
/-- A row of bools that is read stays while the set is changed. -/
theorem SeeB.kp {n : Nat} {r : List RP} (h : SeeB w v bs) (hm : MapU b n r w) (k : Kp [b] w w') : SeeB w' v bs := by
  rcases h with h | ⟨g, off, c, rfl, h1, h2, h3⟩
  · exact .inl h
  · refine .inr ⟨g, off, c, rfl, h1, h2, fun j u hu => (k.cell (p := ⟨g, off + j, none⟩) (World.block_lt_of_cell? w _ (h3 j u hu)) fun e => ?_).trans (h3 j u hu)⟩
    have e : g = b := by simpa using e
    have h4 := h3 j u hu
    rw [e, hm.nocell] at h4
    cases h4
/-- Two rows of the call's own, apart, and the set. -/
structure Tw (w0 : World) (b : Nat) (va vb : Value) (xa xb rs : List EP) (wr : World) : Prop where
  low : Kp [b] w0 wr
  ra : OwnE wr w0.heap.size va xa
  rb : OwnE wr w0.heap.size vb xb
  ap : ∀ x, va.ownBlock = some x → vb.ownBlock ≠ some x
  blt : b < w0.heap.size
  set : MapU b rs.length (rs.map EP.ref) wr
theorem Tw.start {w : World} (h : MapU b rs.length (rs.map EP.ref) w) : Tw w b (.slice none 0 0) (.slice none 0 0) [] [] rs w := ⟨.refl _, .nil _ _, .nil _ _, (fun _ h => by cases h), h.lt, h⟩
theorem Tw.swap (h : Tw w0 b va vb xa xb rs w) : Tw w0 b vb va xb xa rs w := ⟨h.low, h.rb, h.ra, fun x hb ha => h.ap x ha hb, h.blt, h.set⟩
theorem Tw.below (h : Tw w0 b va vb xa xb rs w) (hb : Below w.heap.size w w') : Tw w0 b va vb xa xb rs w' := ⟨h.low.trans (.of_below hb), h.ra.below hb, h.rb.below hb, h.ap, h.blt, h.set.below hb⟩
theorem Tw.push (h : Tw w0 b va vb xa xb rs w) (ho : w'.ownsRow w0.heap.size 34 6 v' (xa.length + [e].length) (flatE xa ++ flatE [e])) (hg : w.grownBy w' va.ownBlock) (hb : v'.ownBlock = va.ownBlock ∨ v'.ownBlock = some w.heap.size) : Tw w0 b v' vb (xa ++ [e]) xb rs w' := by
  have hge : ∀ x, va.ownBlock = some x → w0.heap.size ≤ x := fun x hx => (h.ra.bq hx).1
  refine ⟨h.low.then (Kp.grown (E := va.ownBlock.toList) hg fun x hx => by simp [hx]) fun x hx => .inr (hge x (by simpa using hx)), ?_, h.rb.same fun x hx => hg.block x (h.rb.lt hx) fun e => h.ap x (Eq.symm e) hx, fun x hx hx2 => ?_, h.blt, h.set.same (hg.block b h.set.lt fun e => ?_)⟩
  · unfold OwnE
    rw [flatE_app, List.length_append]
    exact ho
  · rcases hb with hb | hb
    · exact h.ap x (hb ▸ hx) hx2
    · have := h.rb.lt hx2
      rw [hb] at hx
      injection hx with hx
      omega
  · have := hge b (Eq.symm e)
    have := h.blt
    omega
theorem Tw.del {rs' : List EP} (h : Tw w0 b va vb xa xb rs w) (hm : MapU b rs'.length (rs'.map EP.ref) w') (hg : w.grownBy w' (some b)) : Tw w0 b va vb xa xb rs' w' := by
  have hne : ∀ x, w0.heap.size ≤ x → some x ≠ some b := fun x hx e => by
    injection e with e
    have := h.blt
    omega
  exact ⟨h.low.trans (Kp.grown hg fun x hx => by injection hx with hx; simp [hx]), h.ra.same fun x hx => hg.block x (h.ra.lt hx) (hne x (h.ra.bq hx).1), h.rb.same fun x hx => hg.block x (h.rb.lt hx) (hne x (h.rb.bq hx).1), h.ap, h.blt, hm⟩
end
section
variable {w w' : World} {q b : Nat} {v : Value} {l : List EP} {bs : List Bool}
set_option maxRecDepth 100000 in
set_option maxHeartbeats 16000000 in
theorem sweep_lay {A Ab : Option Addr} {n c nb cb : Nat} (h : RLay q (.slice A n c) (some b) l w) (hi : InvR l) (hk : ∀ e ∈ l, RP.ok e.ref) (hb : BoolV w (.slice Ab nb cb) bs) (hl : l.length < 1000) : Calls Try.prog 9 #[.pointer (some ⟨q, 0, none⟩), .slice Ab nb cb] w fun e w' => ∃ vo vl, e = .returned vo ∧ RLay q vl (some b) (leftE l (fB bs) l.length) w' ∧ OwnE w' w.heap.size vo (outE l (fB bs) l.length) ∧ (∀ x, vo.ownBlock = some x → vl.ownBlock ≠ some x) ∧ (∀ x, vl.ownBlock = some x → w.heap.size ≤ x) ∧ Kp [q, b] w w' := by
  obtain ⟨i0, hi0, hz0, hz1, hz2⟩ := info_parts infoE
  have HN := Lib.hid h.row.see.len
  have hn : n < 1000 := by rw [HN.out]; exact hl
  have HNB := Lib.hid hb.len
  have hM : MapU b l.length (l.map EP.ref) w := by
    rcases h.set with ⟨h1, _⟩ | ⟨b', h1, h2⟩
    · cases h1
    · injection h1 with h1; exact h1 ▸ h2
  have HM := Lib.hid hM
  have HW := Lib.hid h
  have HV := Lib.hid hb
  have HI := Lib.hid hi
  have HK := Lib.hid hk
  have hc := h.k.cell 0
  dsimp only [List.getElem?_cons_zero] at hc
  clear h hb hi hk hM
  go_enter Try.func9, Try.ntmps9
  go_wp2_with fail
  clear hc
  go_loopw [5, 6, 16] (fun vo vl j wr => ∃ i : Nat, i ≤ n ∧ j = .int .i64 (i : Int) ∧ Hid (Tw w b vo vl (outE l (fB bs) i) (leftE l (fB bs) i) (restE l (fB bs) i) wr)) (fun _ _ j _ => n - (intOf j).toNat)
  case atStart => exact ⟨0, Nat.zero_le _, rfl, Lib.hid (.start HM.out)⟩
  case round =>
    obtain ⟨i, hi, rfl, HR⟩ := hrel
    rename World => wr
    obtain ⟨Ao, ko, rfl, hok, hok9, _⟩ := HR.out.ra.slice
    obtain ⟨Al, kl, rfl, hlk, hlk9, _⟩ := HR.out.rb.slice
    have hge : (0 : Int) ≤ (i : Int) := by omega
    have hqb : q ≠ b := fun e => HM.out.ne HW.out.k e.symm
    have HQ := Lib.hid (HW.out.k.same (HR.out.low.block q HW.out.k.lt (by simpa using hqb)))
    have hm := HQ.out.cell 1
    have hc := HQ.out.cell 0
    have hz := HQ.out.free 0
    dsimp only [List.getElem?_cons_zero, List.getElem?_cons_succ] at hm hc
    have hlo := Lib.hid (out_left l (fB bs) i)
    by_cases hlt : i < n
    · have hlt' : (i : Int) < (n : Int) := by omega
      have hig : i < l.length := by have := HN.out; omega
      have HRW := Lib.hid (HW.out.row.same fun x hx => HR.out.low.block x (HW.out.row.lt hx) (by simpa using Ne.symm (HW.out.mv rfl hx)))
      obtain ⟨hc0, hc1, g1, o1, rfl⟩ := HRW.out.see.addr (by omega)
      obtain ⟨y0, y1, y2, y3, y4, y5⟩ := HRW.out.see.six hig
      have HOS := Lib.hid (out_succ l (fB bs) i)
      have HLS := Lib.hid (left_succ l (fB bs) i)
      have HRO := Lib.hid (rest_mem (f := fB bs) HI.out hig)
      have HRL := Lib.hid (rest_len (l := l) (f := fB bs) hig)
      have HRM := Lib.hid (show (l.getD i EP.zero).ref ∈ (restE l (fB bs) i).map EP.ref by rw [rest_at hig]; simp)
      have HKE := Lib.hid (HK.out (l.getD i EP.zero) (by rw [List.getD_eq_getElem?_getD, List.getElem?_eq_getElem hig]; exact List.getElem_mem _))
      generalize hev : l.getD i EP.zero = ev at *
      obtain ⟨es, eg, ek, eb, ec, ed⟩ := ev
      dsimp only at y0 y1 y2 y3 y4 y5
      have hA0 : Below wr.heap.size wr (wr.alloc (.cells #[.int .i64 es, .int .u32 eg, .bool ek, .int .u64 eb, .int .u64 ec, .int .u64 ed] 34)) := (Below.refl _ _).alloc (Nat.le_refl _) _
      have HT := Lib.hid (HR.out.below hA0)
      have hmA := (HQ.out.below hA0).cell 1
      dsimp only [List.getElem?_cons_zero, List.getElem?_cons_succ] at hmA
      have HBX := Lib.hid (Bq.new wr (EP.cells ⟨es, eg, ek, eb, ec, ed⟩) 34)
      clear hev
      by_cases hib : i < nb
      · have hib' : (i : Int) < (nb : Int) := by omega
        have hbs := ((HV.out).see (by omega)).kp HM.out HR.out.low
        have hbs2 := hbs.below hA0
        obtain ⟨hcb0, hcb1, g2, o2, rfl⟩ := hbs.addr (by omega)
        have x0 := hbs.at_ (j := i) (by have := HNB.out; omega)
        have x1 := hbs2.at_ (j := i) (by have := HNB.out; omega)
        clear hbs hbs2 hA0
        generalize hf : bs.getD i false = f at *
        have HF := Lib.hid (show fB bs i = f from hf)
        clear hf
        cases f
        · have e1 : outE l (fB bs) (i + 1) = outE l (fB bs) i := by rw [HOS.out, HF.out]; simp
          have e2 : leftE l (fB bs) (i + 1) = leftE l (fB bs) i ++ [⟨es, eg, ek, eb, ec, ed⟩] := by rw [HLS.out, HF.out]; rfl
          have e3 : restE l (fB bs) (i + 1) = restE l (fB bs) i := rest_stay hig HF.out
          have E3 := Lib.hid e3
          clear e3
          have E1 := Lib.hid e1
          have E2 := Lib.hid e2
          clear e1 e2
          have hA1 : Below (wr.alloc (.cells #[.int .i64 es, .int .u32 eg, .bool ek, .int .u64 eb, .int .u64 ec, .int .u64 ed] 34)).heap.size (wr.alloc (.cells #[.int .i64 es, .int .u32 eg, .bool ek, .int .u64 eb, .int .u64 ec, .int .u64 ed] 34)) ((wr.alloc (.cells #[.int .i64 es, .int .u32 eg, .bool ek, .int .u64 eb, .int .u64 ec, .int .u64 ed] 34)).alloc (.cells #[.int .i64 es, .int .u32 eg, .bool ek, .int .u64 eb, .int .u64 ec, .int .u64 ed] 34)) := (Below.refl _ _).alloc (Nat.le_refl _) _
          have HT8 := Lib.hid (HT.out.below hA1)
          have hse := see_one (wr.alloc (.cells #[.int .i64 es, .int .u32 eg, .bool ek, .int .u64 eb, .int .u64 ec, .int .u64 ed] 34)) es eg eb ec ed ek
          have hsz : (wr.alloc (.cells #[.int .i64 es, .int .u32 eg, .bool ek, .int .u64 eb, .int .u64 ec, .int .u64 ed] 34)).heap.size = wr.heap.size + 1 := size_al _ _
          rw [hsz] at hse
          have HSE := Lib.hid hse
          clear hA1 hse hsz
          go_wp2_with (at_builtin; refine wpList_append_see hi0 hz0 hz1 hz2 rfl (.tmp 32) (.tmp 34) rfl w.heap.size (.slice Al (leftE l (fB bs) i).length kl) (leftE l (fB bs) i) rfl HT8.out.swap.ra (.slice (some ⟨wr.heap.size + 1, 0, none⟩) 1 1) [⟨es, eg, ek, eb, ec, ed⟩] rfl HSE.out (by have := hlo.out; simp only [List.length_singleton]; omega) HT8.out.low.size ?_; intro v' w9 h9 g9 b9; have HT9 := Lib.hid (HT8.out.swap.push h9 g9 b9); clear h9 g9 b9)
          go_roundw
          case rel => exact ⟨i + 1, by omega, by go_num, Lib.hid (by rw [E1.out, E2.out, E3.out]; exact HT9.out.swap)⟩
          case measure => simp [intOf]; omega
        · have e1 : outE l (fB bs) (i + 1) = outE l (fB bs) i ++ [⟨es, eg, ek, eb, ec, ed⟩] := by rw [HOS.out, HF.out]; rfl
          have e2 : leftE l (fB bs) (i + 1) = leftE l (fB bs) i := by rw [HLS.out, HF.out]; simp
          have E1 := Lib.hid e1
          have E2 := Lib.hid e2
          clear e1 e2
          have HRO1 := Lib.hid (HRO.out HF.out)
          have HRL1 := Lib.hid (HRL.out HF.out)
          clear HRO HRL
          have HTD := Lib.hid ((HT.out).below (Below.refl _ _).drew)
          have hMD : MapU b ((restE l (fB bs) (i + 1)).length + 1) ((restE l (fB bs) i).map EP.ref) (wr.alloc (.cells #[.int .i64 es, .int .u32 eg, .bool ek, .int .u64 eb, .int .u64 ec, .int .u64 ed] 34)).drew := by
            have := HTD.out.set
            rwa [HRL1.out] at this
          have HMD := Lib.hid hMD
          clear hMD
          go_upto_region 9 with (fail)
          go_region_law ((refine step_delete rfl (.tmp 39) (.tmp 41) 47 rfl mapTy HMD.out (r := ⟨es, eg, ek⟩) HKE.out HRM.out (by simp [Act.eval]) (by simp [Act.eval, refV]) ?_; intro w7 hm7 hg7; have HT7 := Lib.hid (HTD.out.del (hm7.perm HRO1.out) hg7); have HB7 := Lib.hid ((HBX.out.below (Below.refl _ _).drew).same (hg7.block _ (HBX.out.below (Below.refl _ _).drew).lt fun e => by have h1 := HTD.out.blt; have h2 := HR.out.low.size; injection e with e; omega)); clear hm7 hg7))
          all_goals
            have x0 := HB7.out.cell 0
            have x1 := HB7.out.cell 1
            have x2 := HB7.out.cell 2
            have x3 := HB7.out.cell 3
            have x4 := HB7.out.cell 4
            have x5 := HB7.out.cell 5
            simp only [EP.cells, List.getElem?_cons_zero, List.getElem?_cons_succ] at x0 x1 x2 x3 x4 x5
            have hA7 : Below w7.heap.size w7 (w7.alloc (.cells #[.int .i64 es, .int .u32 eg, .bool ek, .int .u64 eb, .int .u64 ec, .int .u64 ed] 34)) := (Below.refl _ _).alloc (Nat.le_refl _) _
            have HT8 := Lib.hid (HT7.out.below hA7)
            have HSE := Lib.hid (see_one w7 es eg eb ec ed ek)
            clear hA7
            go_wp2_with (at_builtin; refine wpList_append_see hi0 hz0 hz1 hz2 rfl (.tmp 42) (.tmp 44) rfl w.heap.size (.slice Ao (outE l (fB bs) i).length ko) (outE l (fB bs) i) rfl HT8.out.ra (.slice (some ⟨w7.heap.size, 0, none⟩) 1 1) [⟨es, eg, ek, eb, ec, ed⟩] rfl HSE.out (by have := hlo.out; simp only [List.length_singleton]; omega) HT8.out.low.size ?_; intro v' w9 h9 g9 b9; have HT9 := Lib.hid (HT8.out.push h9 g9 b9); clear h9 g9 b9)
            go_roundw
            case rel => exact ⟨i + 1, by omega, by go_num, Lib.hid (by rw [E1.out, E2.out]; exact HT9.out)⟩
            case measure => simp [intOf]; omega
      · have hnib : ¬ (i : Int) < (nb : Int) := by omega
        have hnib' : (nb : Int) ≤ (i : Int) := by omega
        have HF := Lib.hid (fB_at (bs := bs) (i := i) (by have := HNB.out; omega))
        clear hA0
        have e1 : outE l (fB bs) (i + 1) = outE l (fB bs) i := by rw [HOS.out, HF.out]; simp
        have e2 : leftE l (fB bs) (i + 1) = leftE l (fB bs) i ++ [⟨es, eg, ek, eb, ec, ed⟩] := by rw [HLS.out, HF.out]; rfl
        have e3 : restE l (fB bs) (i + 1) = restE l (fB bs) i := rest_stay hig HF.out
        have E3 := Lib.hid e3
        clear e3
        have E1 := Lib.hid e1
        have E2 := Lib.hid e2
        clear e1 e2
        have hA1 : Below (wr.alloc (.cells #[.int .i64 es, .int .u32 eg, .bool ek, .int .u64 eb, .int .u64 ec, .int .u64 ed] 34)).heap.size (wr.alloc (.cells #[.int .i64 es, .int .u32 eg, .bool ek, .int .u64 eb, .int .u64 ec, .int .u64 ed] 34)) ((wr.alloc (.cells #[.int .i64 es, .int .u32 eg, .bool ek, .int .u64 eb, .int .u64 ec, .int .u64 ed] 34)).alloc (.cells #[.int .i64 es, .int .u32 eg, .bool ek, .int .u64 eb, .int .u64 ec, .int .u64 ed] 34)) := (Below.refl _ _).alloc (Nat.le_refl _) _
        have HT8 := Lib.hid (HT.out.below hA1)
        have hse := see_one (wr.alloc (.cells #[.int .i64 es, .int .u32 eg, .bool ek, .int .u64 eb, .int .u64 ec, .int .u64 ed] 34)) es eg eb ec ed ek
        have hsz : (wr.alloc (.cells #[.int .i64 es, .int .u32 eg, .bool ek, .int .u64 eb, .int .u64 ec, .int .u64 ed] 34)).heap.size = wr.heap.size + 1 := size_al _ _
        rw [hsz] at hse
        have HSE := Lib.hid hse
        clear hA1 hse hsz
        go_wp2_with (at_builtin; refine wpList_append_see hi0 hz0 hz1 hz2 rfl (.tmp 32) (.tmp 34) rfl w.heap.size (.slice Al (leftE l (fB bs) i).length kl) (leftE l (fB bs) i) rfl HT8.out.swap.ra (.slice (some ⟨wr.heap.size + 1, 0, none⟩) 1 1) [⟨es, eg, ek, eb, ec, ed⟩] rfl HSE.out (by have := hlo.out; simp only [List.length_singleton]; omega) HT8.out.low.size ?_; intro v' w9 h9 g9 b9; have HT9 := Lib.hid (HT8.out.swap.push h9 g9 b9); clear h9 g9 b9)
        go_roundw
        case rel => exact ⟨i + 1, by omega, by go_num, Lib.hid (by rw [E1.out, E2.out, E3.out]; exact HT9.out.swap)⟩
        case measure => simp [intOf]; omega
    · have hin : i = n := by omega
      have hnl : ¬ (i : Int) < (n : Int) := by omega
      have hie : i = l.length := by have := HN.out; omega
      have HKK := Lib.hid HW.out.k.lt
      have HRE := Lib.hid HR.out
      rw [hie] at HRE
      have hnl2 : ¬ ((l.length : Nat) : Int) < (n : Int) := by have := HN.out; omega
      rw [hie]
      clear hin HR hie hlo hm
      have far : ∀ (v : Value) y, y ≠ q → (wr.setCell ⟨q, 0, none⟩ v).heap[y]? = wr.heap[y]? := fun v y hy => Below.heap_setCell wr ⟨q, 0, none⟩ v y hy
      have hnq : ∀ (v : Value) xs y, OwnE wr w.heap.size v xs → v.ownBlock = some y → y ≠ q := fun v xs y ho hy e => by
        have h1 := (ho.bq hy).1
        have h2 := HKK.out
        omega
      have HO := Lib.hid (HRE.out.ra.same (w' := wr.setCell ⟨q, 0, none⟩ (.slice Al (leftE l (fB bs) l.length).length kl)) fun y hy => far _ y (hnq _ _ y HRE.out.ra hy))
      have HL := Lib.hid (HRE.out.rb.same (w' := wr.setCell ⟨q, 0, none⟩ (.slice Al (leftE l (fB bs) l.length).length kl)) fun y hy => far _ y (hnq _ _ y HRE.out.rb hy))
      have HS := Lib.hid (HRE.out.set.same (w' := wr.setCell ⟨q, 0, none⟩ (.slice Al (leftE l (fB bs) l.length).length kl)) (far _ b hqb.symm))
      have HQ2 := Lib.hid (show Bq q 49 [.slice Al (leftE l (fB bs) l.length).length kl, .map (some b)] _ from HQ.out.set 0 (.slice Al (leftE l (fB bs) l.length).length kl) rfl)
      have hle : (outE l (fB bs) l.length).length < 1000 := by have := out_left l (fB bs) l.length; omega
      have HP := Lib.hid ((HRE.out.low.more (E' := [q, b]) (by simp)).trans (.setCell (q := q) wr (by simp) 0 (.slice Al (leftE l (fB bs) l.length).length kl)))
      clear far hnq
      go_wp2_with fail
      generalize wr.setCell ⟨q, 0, none⟩ (.slice Al (leftE l (fB bs) l.length).length kl) = ws at *
      ((with_reducible refine (own_all HO.out.see hle).mono ?_); rintro ee w9 ⟨v9, rfl, ho9, hb9⟩)
      have HO9 := Lib.hid ho9
      have HB9 := Lib.hid hb9
      clear ho9 hb9
      go_wp2_with fail
      go_ret
      have hsz : w.heap.size ≤ ws.heap.size := HP.out.size
      refine ⟨_, .slice Al (leftE l (fB bs) l.length).length kl, rfl, ⟨HQ2.out.below HB9.out, (HL.out.below HB9.out).mono (Nat.zero_le _), .inr ⟨b, rfl, ?_⟩⟩, HO9.out.mono hsz, fun x hx hy => ?_, fun x hx => (HL.out.bq hx).1, HP.out.trans (.of_below HB9.out)⟩
      · have hs := HS.out.below HB9.out
        rwa [rest_end] at hs
      · have h1 := (HO9.out.bq hx).1
        have h2 := HL.out.lt hy
        omega
end
end Go.Proofs.Ythcclgnadhcndaa
