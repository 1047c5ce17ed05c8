/-
  The program's Write of layer 3: the bytes of all commands, or nothing; conditions: the table of sizes reads as the program lays it; the commands lie as it says, at most 100000 of them.
-/
import Derived.Test.YtlgfdemggkiojaaDoorF8
import Derived.Test.YtlgfdemggkiojaaDoorV2
namespace Go.Proofs.YtlgfdemggkiojaaDoor
open Go.RowKit

/-- Commands that lie one behind the other. -/
def Cms (w : World) (g off : Nat) (l : List Cm) : Prop := ∀ i c, l[i]? = some c →
  w.cell? ⟨g, off + i * 9, none⟩ = some (.int .u8 c.kind) ∧ w.cell? ⟨g, off + i * 9 + 1, none⟩ = some (.int .i64 c.fr) ∧ w.cell? ⟨g, off + i * 9 + 2, none⟩ = some (.int .i64 c.to) ∧ w.cell? ⟨g, off + i * 9 + 3, none⟩ = some (.int .i64 c.at_) ∧ w.cell? ⟨g, off + i * 9 + 4, none⟩ = some (.int .i64 c.thr) ∧
  w.cell? ⟨g, off + i * 9 + 5, none⟩ = some (.int .u8 c.sch) ∧ w.cell? ⟨g, off + i * 9 + 6, none⟩ = some (.int .u8 c.op) ∧ w.cell? ⟨g, off + i * 9 + 7, none⟩ = some (.int .u64 c.key) ∧ w.cell? ⟨g, off + i * 9 + 8, none⟩ = some (.int .u64 c.val)
theorem Cms.below {w w' : World} {g off : Nat} {l : List Cm} (h : Cms w g off l) (hb : Below w.heap.size w w') : Cms w' g off l := fun i c hc => by
  obtain ⟨h0, h1, h2, h3, h4, h5, h6, h7, h8⟩ := h i c hc
  have k : ∀ {o v}, w.cell? ⟨g, o, none⟩ = some v → w'.cell? ⟨g, o, none⟩ = some v := fun {o v} hv => (hb.cell (p := ⟨g, o, none⟩) (World.block_lt_of_cell? w _ hv)).trans hv
  exact ⟨k h0, k h1, k h2, k h3, k h4, k h5, k h6, k h7, k h8⟩
/-- .. behind a slice, nil let in. -/
def Slc (w : World) (A : Option Addr) (l : List Cm) : Prop := l ≠ [] → ∃ g off, A = some ⟨g, off, none⟩ ∧ Cms w g off l
theorem Slc.below {w w' : World} {A : Option Addr} {l : List Cm} (h : Slc w A l) (hb : Below w.heap.size w w') : Slc w' A l := fun hl => by
  obtain ⟨g, off, rfl, hB⟩ := h hl
  exact ⟨g, off, rfl, hB.below hb⟩
def bC (u : UInt8) : Value := .int .u8 (u.toNat : Int)
theorem bC_one (l : List UInt8) : ∀ u ∈ l.map bC, u.oneCell' = true := by
  intro u hu
  obtain ⟨_, _, rfl⟩ := List.mem_map.1 hu
  rfl
/-- All commands' bytes. -/
def flatB (l : List Cm) : List UInt8 := l.flatMap codeC
theorem flatB_snoc (l : List Cm) (c : Cm) : flatB (l ++ [c]) = flatB l ++ codeC c := by simp [flatB]
theorem flatB_length (l : List Cm) : (flatB l).length ≤ l.length * 5 := by
  induction l with
  | nil => simp [flatB]
  | cons c r ih =>
    have h1 := codeC_length c
    have h2 := sizeOf_bd c.kind
    unfold flatB at ih ⊢
    rw [List.flatMap_cons, List.length_append, List.length_cons]
    omega
theorem codeV_cells {w : World} {q : Nat} {c : Cm} {t : TypeId} (h : w.heap[q]? = some (.cells #[.int .u8 (byt (codeC c) 0), .int .u8 (byt (codeC c) 1), .int .u8 (byt (codeC c) 2), .int .u8 (byt (codeC c) 3), .int .u8 (byt (codeC c) 4)] t (0, 0))) :
    ∀ j u, ((codeC c).map bC)[j]? = some u → w.cell? ((⟨q, 0, none⟩ : Addr).add j) = some u := by
  intro j u hu
  have hl := codeC_length c
  have hs := sizeOf_bd c.kind
  have hj : j < (codeC c).length := by
    have := (List.getElem?_eq_some_iff.1 hu).1
    simpa using this
  have hadd : (⟨q, 0, none⟩ : Addr).add j = ⟨q, j, none⟩ := by unfold Addr.add; split <;> simp_all
  have he : u = .int .u8 (byt (codeC c) j) := by
    rw [List.getElem?_map, List.getElem?_eq_getElem hj] at hu
    simp only [Option.map_some, Option.some.injEq] at hu
    rw [← hu]
    unfold bC byt
    rw [List.getD_eq_getElem?_getD, List.getElem?_eq_getElem hj]
    rfl
  rw [hadd, cell_of_row _ _ _ _ _ _ h, he]
  match j, (show j < 5 by omega) with
  | 0, _ => rfl
  | 1, _ => rfl
  | 2, _ => rfl
  | 3, _ => rfl
  | 4, _ => rfl
/-- What Write hands back. -/
def Wrote (w0 : World) (l : List Cm) (e : Ending) (W' : World) : Prop :=
  Below w0.heap.size w0 W' ∧ ((l.all mayC = false ∧ e = .returned (.tuple #[.slice none 0 0, .bool false])) ∨
    (l.all mayC = true ∧ ∃ (v : Value) (c : Nat), W'.ownsRow w0.heap.size 5 1 v (flatB l).length ((flatB l).map bC) ∧
      ((v = .slice none 0 0 ∧ e = .returned (.tuple #[.slice none 0 0, .bool true])) ∨ ∃ g, v = .slice (some ⟨g, 0, none⟩) (flatB l).length c ∧ e = .returned (.tuple #[.slice (some ⟨g, 0, none⟩) (flatB l).length (flatB l).length, .bool true]))))
/-- What stands between two rounds. -/
structure WAt (w0 : World) (l : List Cm) (k : Nat) (v : Value) (w : World) : Prop where
  own : w.ownsRow w0.heap.size 5 1 v (flatB (l.take k)).length ((flatB (l.take k)).map bC)
  may : ∀ c ∈ l.take k, mayC c = true
  low : Below w0.heap.size w0 w
theorem WAt.len {w0 : World} {l : List Cm} {k : Nat} {v : Value} {w : World} (_h : WAt w0 l k v w) (hl : l.length ≤ 100000) : (flatB (l.take k)).length ≤ 500000 := by
  have h1 := flatB_length (l.take k)
  rw [List.length_take] at h1
  omega
theorem WAt.next {w0 : World} {l : List Cm} {k : Nat} {v v' : Value} {w w' : World} {c : Cm} (h : WAt w0 l k v w) (hc : l[k]? = some c) (hm : mayC c = true)
    (ho : w'.ownsRow w0.heap.size 5 1 v' ((flatB (l.take k)).length + (codeC c).length) ((flatB (l.take k)).map bC ++ (codeC c).map bC)) (hb : Below w0.heap.size w0 w') : WAt w0 l (k + 1) v' w' := by
  have ht : l.take (k + 1) = l.take k ++ [c] := by
    obtain ⟨hk, rfl⟩ := List.getElem?_eq_some_iff.1 hc
    exact List.take_succ_eq_append_getElem hk
  refine ⟨?_, fun d hd => ?_, hb⟩
  · rw [ht, flatB_snoc, List.length_append, List.map_append]
    exact ho
  · rw [ht] at hd
    rcases List.mem_append.1 hd with hd | hd
    · exact h.may d hd
    · rw [List.mem_singleton.1 hd]
      exact hm
theorem all_false {l : List Cm} {k : Nat} {c : Cm} (hc : l[k]? = some c) (hm : mayC c = false) : l.all mayC = false := by
  rw [Bool.eq_false_iff]
  intro h
  have := List.all_eq_true.1 h c (List.mem_of_getElem? hc)
  rw [hm] at this
  cases this
theorem WAt.all {w0 : World} {l : List Cm} {k : Nat} {v : Value} {w : World} (h : WAt w0 l k v w) (hk : l.length ≤ k) : l.all mayC = true ∧ l.take k = l := by
  have ht : l.take k = l := List.take_of_length_le hk
  refine ⟨List.all_eq_true.2 fun c hc => h.may c (by rw [ht]; exact hc), ht⟩

theorem slice5 (q S : Nat) (h : S ≤ 5) (W : World) : (Instr.sliceAt 61 (.pointer (some ⟨q, 0, none⟩)) none (some (.int .i64 (S : Int))) none).run Tryd.prog W = .ok (.slice (some ⟨q, 0, none⟩) S 5) W := by
  have ht : Tryd.prog.underlying 61 = some (.array (Tryd.prog.arrayLen 61) (Tryd.prog.elem 61)) := by kernel_rfl
  have h5 : Tryd.prog.arrayLen 61 = 5 := by kernel_rfl
  have he : Tryd.prog.elem 61 = 5 := by kernel_rfl
  have hz := Tryd.sizeOf5
  rw [run_sliceAt_array_h W 61 _ ht .i64 (S : Int) (by omega) (by rw [h5]; omega), he, hz, h5]
  simp [slicedAt, Result.andThen, Addr.add]
set_option maxRecDepth 100000 in
set_option maxHeartbeats 4000000 in
theorem write_any (A : Option Addr) (cap : Nat) (l : List Cm) (w : World) (hlay : Lay w) (hs : Slc w A l) (hf : ∀ c ∈ l, c.Fit) (hl : l.length ≤ 100000) :
    Calls Tryd.prog 19 #[.slice A l.length cap] w (Wrote w l) := by
  obtain ⟨i0, hi, hz0, hz1, hz2⟩ := info_parts Tryd_info5
  have H0 := Lib.hid (⟨World.ownsRow_nil w _ _ _, fun _ h => by simp at h, Below.refl _ _⟩ : WAt w l 0 (.slice none 0 0) w)
  have HLAY := Lib.hid hlay
  have HS := Lib.hid hs
  have HF := Lib.hid hf
  clear hlay hs hf
  go_enter Tryd.func19, Tryd.ntmps19
  go_wp2_with fail
  go_loopw [4, 10] (fun v i wr => ∃ k : Nat, k ≤ l.length ∧ i = .int .i64 (k : Int) ∧ WAt w l k v wr) (fun _ i _ => l.length - (intOf i).toNat)
  case atStart => exact ⟨0, Nat.zero_le _, rfl, H0.out⟩
  case round =>
    obtain ⟨k, hk, rfl, hr⟩ := hrel
    have HR := Lib.hid hr
    clear hr
    by_cases hlt : k < l.length
    · obtain ⟨c, hc⟩ : ∃ c, l[k]? = some c := ⟨_, List.getElem?_eq_getElem hlt⟩
      obtain ⟨g, off, rfl, hcm⟩ := HS.out (fun e => by rw [e] at hlt; simp at hlt)
      obtain ⟨h0, h1, h2, h3, h4, h5, h6, h7, h8⟩ := hcm.below (w' := wr) (HR.out.low.mono (Nat.le_refl _)) k c hc
      have hfit := HF.out c (List.mem_of_getElem? hc)
      have HC := Lib.hid hc
      have HFIT := Lib.hid hfit
      have hlt' : (k : Int) < (l.length : Int) := by omega
      clear hc hcm hfit
      go_wp2_with fail
      have bx0 := Box9.new wr 34 (.int .u8 c.kind) (.int .i64 c.fr) (.int .i64 c.to) (.int .i64 c.at_) (.int .i64 c.thr) (.int .u8 c.sch) (.int .u8 c.op) (.int .u64 c.key) (.int .u64 c.val)
      refine (may_any c _ HFIT.out).mono ?_
      rintro e w2 ⟨rfl, hb2⟩
      have BX := Lib.hid (bx0.below hb2 bx0.lt)
      have HB2 := Lib.hid (((Below.refl _ wr).alloc (Nat.le_refl _) _).trans (hb2.mono (by simp)))
      clear hb2 bx0 h0 h1 h2 h3 h4 h5 h6 h7 h8
      cases hm : mayC c with
      | false =>
        have HM := Lib.hid (all_false HC.out hm)
        clear hm
        go_wp2_with fail
        go_ret2
        exact ⟨HR.out.low.trans (HB2.out.mono HR.out.low.size), .inl ⟨HM.out, rfl⟩⟩
      | true =>
        have hkind := mayC_kind hm
        have HM := Lib.hid hm
        have hk1 := hkind.1
        have hk9 := hkind.2.1
        clear hm hkind
        go_wp2_with (first
          | (refine wpList_load_row rfl 34 (.tmp 6) rfl wr.heap.size rfl 34 _ (0, 0) _ BX.out Tryd.underlying34 rfl isz34 ?_))
        refine (code_any c _ (by omega) hk9 HFIT.out.s0 HFIT.out.s1 HFIT.out.o0 HFIT.out.o1).mono ?_
        rintro e w3 ⟨rfl, hb3⟩
        simp only [codeV]
        obtain ⟨S, hS⟩ : ∃ S, sizeOf' c.kind = S := ⟨_, rfl⟩
        have hsl := codeC_length c
        have hsb := sizeOf_bd c.kind
        rw [hS] at hsl hsb
        have hw3 : Below wr.heap.size wr w3 := HB2.out.trans (hb3.mono HB2.out.size)
        have hX : Below wr.heap.size wr (w3.alloc (.cells #[.int .u8 (byt (codeC c) 0), .int .u8 (byt (codeC c) 1), .int .u8 (byt (codeC c) 2), .int .u8 (byt (codeC c) 3), .int .u8 (byt (codeC c) 4)] 61)) := hw3.alloc hw3.size _
        have hbX : Below w2.heap.size w2 (w3.alloc (.cells #[.int .u8 (byt (codeC c) 0), .int .u8 (byt (codeC c) 1), .int .u8 (byt (codeC c) 2), .int .u8 (byt (codeC c) 3), .int .u8 (byt (codeC c) 4)] 61)) := hb3.alloc hb3.size _
        have yk := (BX.out.below hbX BX.out.lt).cells.1
        have yt := (((HLAY.out.below (HR.out.low.mono (Nat.le_refl _))).below hX)).at_ (k := c.kind) (by omega) hk9
        rw [hS] at yt
        have hq := heap_alloc_new w3 (.cells #[.int .u8 (byt (codeC c) 0), .int .u8 (byt (codeC c) 1), .int .u8 (byt (codeC c) 2), .int .u8 (byt (codeC c) 3), .int .u8 (byt (codeC c) 4)] 61)
        have HQ := Lib.hid hq
        have HX := Lib.hid hX
        have HSL := Lib.hid hsl
        have HSB := Lib.hid hsb
        have HOWN := Lib.hid (own_low HR.out.own hX)
        have hwl := HR.out.len hl
        have hS1 : S ≤ 5 := hsb.2
        have hbase : w.heap.size ≤ w3.heap.size := Nat.le_trans HR.out.low.size hw3.size
        have hsc := slice5 w3.heap.size S hS1
        clear hq hX hbX hsl hsb hS hb3 hw3
        go_wp2_with (at_builtin; refine wpList_append_own _ rfl (.tmp 19) (.tmp 24) _ rfl w.heap.size 5 i0 _ 1 1 Tryd.underlying22 hi hz0 hz1 hz2 rfl (by decide) _ (flatB (l.take k)).length ((flatB (l.take k)).map bC) rfl HOWN.out ⟨w3.heap.size, 0, none⟩ S 5 ((codeC c).map bC) rfl (by rw [List.length_map, HSL.out, Nat.mul_one]) (codeV_cells HQ.out) (bC_one _) (by unfold maxLen; omega) (by omega) (by simp; omega) ?_; intro v' w4 hown' hgrow _; have HO := Lib.hid hown'; have HG := Lib.hid ((HR.out.low.trans (HX.out.mono HR.out.low.size)).grown hgrow (by simp; omega) (fun k hk => (HOWN.out.lt k hk).1)); clear hown' hgrow)
        go_roundw
        case rel =>
          exact ⟨k + 1, by omega, by go_num, HR.out.next HC.out HM.out (by rw [HSL.out]; exact HO.out) HG.out⟩
        case measure => simp [intOf]; omega
    · have hall := HR.out.all (by omega)
      have hge : (l.length : Int) ≤ (k : Int) := by omega
      have HALL := Lib.hid hall
      have hwl := HR.out.len hl
      clear hall
      rcases HR.out.own.2 with ⟨rfl, h0⟩ | ⟨g, cp, cur, rfl, hg, hcur, hnc, hcm, hkk⟩
      · clear h0
        go_wp2_with (go_at_call 32; refine (clip_bytes _ _ _ _ (by omega)).mono ?_; rintro e w' ⟨rfl, rfl⟩)
        go_ret2
        refine ⟨HR.out.low, .inr ⟨HALL.out.1, _, 0, ?_, .inl ⟨rfl, rfl⟩⟩⟩
        have h := HR.out.own
        rw [HALL.out.2] at h
        exact h
      · clear hcur hkk hg
        go_wp2_with (go_at_call 32; refine (clip_bytes _ _ _ _ hnc).mono ?_; rintro e w' ⟨rfl, rfl⟩)
        go_ret2
        have h := HR.out.own
        rw [HALL.out.2] at h
        refine ⟨HR.out.low, .inr ⟨HALL.out.1, _, cp, h, .inr ⟨g, rfl, ?_⟩⟩⟩
        rw [HALL.out.2]
        rfl
end Go.Proofs.YtlgfdemggkiojaaDoor
