/-
  The landed package's list, call by call; condition: it lies as it says.
-/
import Derived.Test.YthcclgnadhcndaaRK7
namespace Go.Proofs.Ythcclgnadhcndaa
open Go.RowKit Go.Maps

section
variable {w w' : World} {q : Nat} {fp : List Nat} {l : List EP} {v : Value} {m : Option Nat} {bs : List Bool}
set_option maxRecDepth 100000 in
set_option maxHeartbeats 16000000 in
theorem sweep_none {A : Option Addr} {n c : Nat} (h : RLay q (.slice A n c) none [] w) (v : Value) : Calls Try.prog 9 #[.pointer (some ⟨q, 0, none⟩), v] w fun e w' => ∃ vo vl, e = .returned vo ∧ RLay q vl none [] w' ∧ OwnE w' w.heap.size vo [] ∧ (∀ x, vo.ownBlock = some x → vl.ownBlock ≠ some x) ∧ (∀ x, vl.ownBlock = some x → w.heap.size ≤ x) ∧ Kp [q] w w' := by
  obtain rfl : n = 0 := h.row.see.len
  have HW := Lib.hid h
  have hc := h.k.cell 0
  have hz := h.k.free 0
  dsimp only [List.getElem?_cons_zero] at hc
  have HQ2 := Lib.hid (show Bq q 49 [.slice none 0 0, .map none] _ from h.k.set 0 (.slice none 0 0) rfl)
  have HP := Lib.hid (Kp.setCell (E := [q]) (q := q) w (by simp) 0 (.slice none 0 0))
  clear h
  go_enter Try.func9, Try.ntmps9
  go_wp2_with fail
  go_loopw [5, 6, 16] (fun vo vl j wr => vo = .slice none 0 0 ∧ vl = .slice none 0 0 ∧ j = .int .i64 0 ∧ wr = w) (fun _ _ _ _ => 0)
  case atStart => exact ⟨rfl, rfl, rfl, rfl⟩
  case round =>
    obtain ⟨rfl, rfl, rfl, rfl⟩ := hrel
    go_wp2_with fail
    generalize World.setCell _ ⟨q, 0, none⟩ (.slice none 0 0) = ws at *
    ((with_reducible refine (own_all (l := []) (w := ws) (OwnE.nil ws 0).see (by decide)).mono ?_); rintro ee w9 ⟨v9, rfl, ho9, hb9⟩)
    have HO9 := Lib.hid ho9
    have HB9 := Lib.hid hb9
    clear ho9 hb9
    go_wp2_with fail
    go_ret
    exact ⟨_, .slice none 0 0, rfl, ⟨HQ2.out.below HB9.out, .nil _ _, .inl ⟨rfl, rfl⟩⟩, HO9.out.mono HP.out.size, (fun _ _ h => by cases h), (fun _ h => by cases h), HP.out.trans (.of_below HB9.out)⟩
theorem sweep_all (h : RRep q fp l w) (hl : l.length < 1000) (hb : BoolV w v bs) : Calls Try.prog 9 #[.pointer (some ⟨q, 0, none⟩), v] w fun e w' => ∃ vo fp', e = .returned vo ∧ OwnE w' w.heap.size vo (outE l (fB bs) l.length) ∧ RRep q fp' (leftE l (fB bs) l.length) w' ∧ (∀ x ∈ fp', x ∈ fp ∨ w.heap.size ≤ x) ∧ (∀ x, vo.ownBlock = some x → x ∉ fp') ∧ Kp fp w w' := by
  obtain ⟨_, h2, h3, h4, v0, m, rfl, h5⟩ := h
  obtain ⟨A, k, rfl, _, _, _⟩ := h5.row.slice
  obtain ⟨Ab, nb, cb, rfl⟩ : ∃ Ab nb cb, v = .slice Ab nb cb := by
    rcases hb with (⟨rfl, _⟩ | ⟨g, off, c, rfl, _⟩) | ⟨a, c, rfl, _⟩
    · exact ⟨_, _, _, rfl⟩
    · exact ⟨_, _, _, rfl⟩
    · exact ⟨_, _, _, rfl⟩
  have hq := h5.k.lt
  rcases h5.set with ⟨rfl, rfl⟩ | ⟨b, rfl, h6⟩
  · refine (sweep_none h5 _).mono ?_
    rintro e w' ⟨vo, vl, rfl, g1, g2, g3, g4, g5⟩
    refine ⟨vo, _, rfl, g2, g1.out .nil (by simp), fun x hx => ?_, fun x hx hm => ?_, g5.more (by simp)⟩
    · simp only [List.mem_cons, List.mem_append, Option.mem_toList] at hx
      rcases hx with rfl | hx | hx
      · exact .inl (by simp)
      · exact .inr (g4 x hx)
      · cases hx
    · simp only [List.mem_cons, List.mem_append, Option.mem_toList] at hm
      rcases hm with rfl | hm | hm
      · have := (g2.bq hx).1
        omega
      · exact g3 x hx hm
      · cases hm
  · have hbl := h6.lt
    refine (sweep_lay h5 h3 h4 hb hl).mono ?_
    rintro e w' ⟨vo, vl, rfl, g1, g2, g3, g4, g5⟩
    refine ⟨vo, _, rfl, g2, g1.out (h3.left _) fun e he => h4 e ((left_sub l _).subset he), fun x hx => ?_, fun x hx hm => ?_, g5.more (by simp)⟩
    · simp only [List.mem_cons, List.mem_append, Option.mem_toList] at hx
      rcases hx with rfl | hx | hx
      · exact .inl (by simp)
      · exact .inr (g4 x hx)
      · exact .inl (by simp [hx])
    · have hge := (g2.bq hx).1
      simp only [List.mem_cons, List.mem_append, Option.mem_toList] at hm
      rcases hm with rfl | hm | hm
      · omega
      · exact g3 x hx hm
      · injection hm with hm
        omega
theorem add_all (h : RRep q fp l w) (hl : l.length < 1000) (es eg eb ec ed : Int) (ek : Bool) (hk : RP.ok ⟨es, eg, ek⟩) : Calls Try.prog 13 #[.pointer (some ⟨q, 0, none⟩), .agg #[.int .i64 es, .int .u32 eg, .bool ek, .int .u64 eb, .int .u64 ec, .int .u64 ed]] w fun e w' => e = .returned (.int .i64 (addN l ⟨es, eg, ek, eb, ec, ed⟩)) ∧ ∃ fp', RRep q fp' (addE l ⟨es, eg, ek, eb, ec, ed⟩) w' ∧ (∀ x ∈ fp', x ∈ fp ∨ w.heap.size ≤ x) ∧ Kp fp w w' := by
  obtain ⟨_, h2, h3, h4, v0, m, rfl, h5⟩ := h
  obtain ⟨A, k, rfl, _, _, _⟩ := h5.row.slice
  have hok : ∀ e ∈ addE l ⟨es, eg, ek, eb, ec, ed⟩, RP.ok e.ref := fun e he => by
    unfold addE at he
    split at he
    · rcases List.mem_append.1 he with he | he
      · exact h4 e he
      · rw [List.mem_singleton.1 he]; exact hk
    · exact h4 e he
  rcases h5.set with ⟨rfl, rfl⟩ | ⟨b, rfl, h6⟩
  · refine (add_none h5 es eg eb ec ed ek hk).mono ?_
    rintro e w' ⟨rfl, v', m', g1, g2, g3, g4⟩
    refine ⟨rfl, _, g1.out (h3.add _) hok, fun x hx => ?_, g2.more (by simp)⟩
    simp only [List.mem_cons, List.mem_append, Option.mem_toList] at hx
    rcases hx with rfl | hx | hx
    · exact .inl (by simp)
    · rcases g3 with g3 | ⟨y, g3, g5⟩
      · rw [g3] at hx
        exact .inl (List.mem_cons_of_mem _ (List.mem_append_left _ (by rw [Option.mem_toList]; exact hx)))
      · rw [g3] at hx
        injection hx with hx
        exact .inr (by omega)
    · rcases g4 with rfl | ⟨y, rfl, g5⟩
      · cases hx
      · injection hx with hx
        exact .inr (by omega)
  · refine (add_lay h5 hl es eg eb ec ed ek hk).mono ?_
    rintro e w' ⟨rfl, v', m', g1, g2, g3, rfl⟩
    refine ⟨rfl, _, g1.out (h3.add _) hok, fun x hx => ?_, g2.more fun x hx => ?_⟩
    · simp only [List.mem_cons, List.mem_append, Option.mem_toList] at hx
      rcases hx with rfl | hx | hx
      · exact .inl (by simp)
      · rcases g3 with g3 | ⟨y, g3, g5⟩
        · rw [g3] at hx
          exact .inl (by simp [hx])
        · rw [g3] at hx
          injection hx with hx
          exact .inr (by omega)
      · exact .inl (by simp [hx])
    · simp only [List.mem_cons, List.mem_append, Option.mem_toList] at hx ⊢
      rcases hx with hx | hx | hx
      · exact .inl hx
      · exact .inr (.inr (by simp [hx]))
      · exact .inr (.inl hx)
end
end Go.Proofs.Ythcclgnadhcndaa
