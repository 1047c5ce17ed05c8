/-
  The program's Parse of layer 3: all commands, in memory of their own, with no room behind; conditions: the table of sizes reads as the program lays it; the bytes lie as it says.
-/
import Derived.Test.YtlgfdemggkiojaaDoorV1
import Derived.Shelf.Abstract
import Derived.Deep.AppendLies
import Derived.Deep.Onto
namespace Go.Proofs.YtlgfdemggkiojaaDoor
open Go.RowKit Go.Shelf

theorem boxed_grown {X Y : World} {B : Nat} {t : TypeId} {v : Value} {row : Option Nat} (h : X.grownBy Y row) (hb : Boxed X B t v) (hn : some B ≠ row) : Boxed Y B t v := (h.block B hb.lt hn).trans hb
theorem below_putObj {B D : Nat} {X Y : World} (h : Below B X Y) (hD : B ≤ D) (o : Obj) : Below B X (Y.putObj D o) :=
  ⟨h.os, h.tape, h.output, by simpa using h.size, fun k hk => (World.putObj_heap_other (by omega)).trans (h.block k hk)⟩
theorem own_putObj {W : World} {base D : Nat} {e : TypeId} {size : Nat} {v : Value} {n : Nat} {xs : List Value} (h : W.ownsRow base e size v n xs) (hD : v.ownBlock ≠ some D) (o : Obj) : (W.putObj D o).ownsRow base e size v n xs :=
  own_same h fun g hg => World.putObj_heap_other fun eq => hD (by rw [hg, eq])
/-- What Parse hands back: a row of the call's own, with no room behind, or none. -/
def Parsed (w0 : World) (l : List UInt8) (e : Ending) (W' : World) : Prop :=
  ∃ (v : Value) (c : Nat), W'.ownsRow w0.heap.size 34 9 v (parseC l).length (flatV (parseC l)) ∧ Below w0.heap.size w0 W' ∧
    ((v = .slice none 0 0 ∧ e = .returned (.slice none 0 0)) ∨ ∃ g, v = .slice (some ⟨g, 0, none⟩) (parseC l).length c ∧ e = .returned (.slice (some ⟨g, 0, none⟩) (parseC l).length (parseC l).length))

set_option maxRecDepth 100000 in
set_option maxHeartbeats 4000000 in
theorem parse_in (n : Nat) (A : Option Addr) (cap : Nat) (l : List UInt8) (w : World) (hlay : Lay w) (hs : Sl w A l) (hn : l.length ≤ cap) (hc : cap ≤ 9223372036854775807) (hn3 : 3 ≤ n) :
    CallsIn Fence.wide n Tryd.prog 10 #[.slice A l.length cap] w (Parsed w l) := by
  have h1 : 1 ≤ n := by omega
  obtain ⟨i0, hi, hz0, hz1, hz2⟩ := info_parts Tryd_info34
  have hA : l ≠ [] → ∀ a, A = some a → a.block < w.heap.size := fun hl a ha => by
    obtain ⟨g, off, h1, h2⟩ := hs hl
    rw [h1] at ha
    cases ha
    exact World.block_lt_of_cell? w _ (h2 0 (List.length_pos_iff.2 hl))
  have HLAY := Lib.hid hlay
  have HS := Lib.hid hs
  have HA := Lib.hid hA
  clear hlay hs hA
  refine callsIn_of_wp_marks Tryd.func10 rfl trivial ?_ rfl
  simp only [Tryd.ntmps10, List.size_toArray, List.length_cons, List.length_nil, Nat.reduceAdd, Nat.reduceSub, Array.replicate_succ, Array.replicate_zero, List.push_toArray, List.append_toArray, List.nil_append, List.cons_append]
  gi_wp2_with (refine ⟨trivial, ?_⟩; gi_at_call 22; refine (callsIn_wide.2 (cmds_any _ _ _ _)).mono ?_; rintro e w1 ⟨rfl, rfl⟩)
  have hB0 := HLAY.out.1
  have bB := Boxed.new w 25 (.slice none 0 0)
  have hG0 : Grown w ((w.alloc (.cells #[.slice none 0 0] 25)).alloc (.cells #[.slice A l.length cap] 22)) := Grown.trans (Grown.alloc _ _) (Grown.alloc _ _)
  have hG1 : Grown (w.alloc (.cells #[.slice none 0 0] 25)) ((w.alloc (.cells #[.slice none 0 0] 25)).alloc (.cells #[.slice A l.length cap] 22)) := Grown.alloc _ _
  have hbx := heap_alloc_new (w.alloc (.cells #[.slice none 0 0] 25)) (.cells #[.slice A l.length cap] 22)
  rw [World.size_alloc] at hbx
  have hsz : ((w.alloc (.cells #[.slice none 0 0] 25)).alloc (.cells #[.slice A l.length cap] 22)).heap.size = w.heap.size + 2 := by simp
  have hbB : Boxed ((w.alloc (.cells #[.slice none 0 0] 25)).alloc (.cells #[.slice A l.length cap] 22)) w.heap.size 25 (.slice none 0 0) := grown_obj hG1 bB
  clear bB hG1
  revert hG0 hbx hsz hbB
  generalize (w.alloc (.cells #[.slice none 0 0] 25)).alloc (.cells #[.slice A l.length cap] 22) = W0
  intro hG0 hbx hsz hbB
  have hyi := commands_yields W0 (n - 1) w.heap.size (w.heap.size + 1) cap A l (HLAY.out.below hG0) (HS.out.below hG0) HA.out hB0 (by omega) hbx hbB.cell hn hc (by omega)
  have hT0 : Told w w.heap.size W0.heap.size [] W0 := ⟨⟨_, hbB, World.ownsRow_nil _ _ _ _, by simp [Value.ownBlock], by simp [Value.ownBlock]⟩, hG0⟩
  clear hbx hbB hG0
  refine range_clo (gf := 33) (lb := #[.pointer (some ⟨w.heap.size + 1, 0, none⟩)]) rfl (enters_of Tryd.func33 (by kernel_rfl) rfl) (fun _ => rfl) hyi Kept.trans Kept.of_grown (fun W r r' h => Kept.loop W r r' h)
    (Told w w.heap.size W0.heap.size) (fun s X Y h ht => h.turned ht (by omega)) (fun M hM s X Y h ht => h.spare ht (by omega)) hT0
    (fun x a' W => ∃ Bx, Bx ≠ W0.heap.size ∧ Bx ≠ W0.heap.size + 1 ∧ W.heap[Bx]? = some (.cells (vC x).toArray 34 (0, 0)) ∧
      a' = { tmps := #[.slice A l.length cap, undef, .slice none 0 0, .pointer (some ⟨w.heap.size, 0, none⟩), .pointer (some ⟨Bx, 0, none⟩), .slice A l.length cap, .func (.func 33) #[] #[.pointer (some ⟨w.heap.size + 1, 0, none⟩)], x.v, undef, undef, undef, undef, undef, undef], defers := [] })
    (fun x a' s X Y h ht => by obtain ⟨Bx, h1, h2, h3, h4⟩ := h; exact ⟨Bx, h1, h2, (ht.block Bx (Array.getElem?_eq_some_iff.1 h3).1 h1 h2).trans h3, h4⟩)
    ?assign ?body ?done
  case assign =>
    intro m pre x W K hW hI hK
    simp only [Cm.v] at hK ⊢
    gi_wp2_with (rw [Oper.semAt_eq _ _ _ (fun c h => by cases h)]; go_simp; try go_bits)
    exact hK _ _ (Grown.alloc _ _) (hI.grown (Grown.alloc _ _)) ⟨W.heap.size, by omega, by omega, heap_alloc_new W _, rfl⟩
  case body =>
    rintro m pre x a' W ⟨r, hr⟩ hI ⟨Bx, hx1, hx2, hbx, rfl⟩ hlt
    obtain ⟨v, hb, ho, g1, g2⟩ := hI.ex
    have hlen := parseC_length l
    have cB := hb.cell
    have HX := Lib.hid (show W.heap[Bx]? = some (.cells #[.int .u8 x.kind, .int .i64 x.fr, .int .i64 x.to, .int .i64 x.at_, .int .i64 x.thr, .int .u8 x.sch, .int .u8 x.op, .int .u64 x.key, .int .u64 x.val] 34 (0, 0)) from hbx)
    have HB := Lib.hid hb
    have HO := Lib.hid ho
    have HI := Lib.hid hI
    have G1 := Lib.hid g1
    have G2 := Lib.hid g2
    have HR := Lib.hid hr
    have hBl : w.heap.size < W.heap.size := hb.lt
    have HNB := Lib.hid (show some w.heap.size ≠ v.ownBlock from fun e => by have := (ho.lt _ e.symm).1; omega)
    have HSZ := Lib.hid hsz
    clear hsz
    simp only [Cm.v]
    clear hbx hb ho hI g1 g2 hr hT0 hyi
    gi_wp2_with (first
      | (refine wpListIn_load_row rfl 34 (.tmp 4) rfl Bx rfl 34 _ (0, 0) _ HX.out Tryd.underlying34 rfl isz34 ?_)
      | (gi_at_builtin; refine wpListIn_append_at _ rfl (.tmp 8) (.tmp 10) _ rfl (w.heap.size + 1) 34 i0 _ 9 64 Tryd.underlying25 hi hz0 hz1 hz2 rfl (by decide) _ pre.length (flatV pre) rfl (HO.out.alloc _) ⟨W.heap.size, 0, none⟩ 1 1 (vC x) rfl rfl (cells_new _ _ _) (vC_one x) (by unfold maxLen; omega) (by omega) (by simp; omega) ?_; intro v' w2 hown' hgrow hat; obtain ⟨g', cap', rfl, hg1, hg2⟩ := hown'.form (by omega); have bx2 := boxed_grown hgrow (grown_obj (Grown.alloc _ _) HB.out) HNB.out; have c2 := bx2.cell; have f2 := bx2.frozen; have HO2 := Lib.hid hown'; have HG := Lib.hid hgrow; have HAT := Lib.hid hat; clear hown' hgrow hat bx2)
      | (rw [Oper.semAt_eq _ _ _ (fun c h => by cases h)]; go_simp; try go_bits))
    obtain ⟨t1, t2, t3, t4⟩ := Told.step HB.out G1.out G2.out HO.out HI.out.low (by have := HSZ.out; omega) (Array.getElem?_eq_some_iff.1 HR.out).1 (Grown.alloc W (.cells (vC x).toArray 34)) HO2.out HG.out HAT.out
    exact ⟨t3, t4, t2, t1⟩
  case done =>
    rintro xs W rfl hI hK
    obtain ⟨v, hb, ho, g1, _⟩ := hI.ex
    have hlen := parseC_length l
    have cB := hb.cell
    have HI := Lib.hid hI
    have HK := Lib.hid hK
    have hbl := hb.lt
    have HSZ := Lib.hid hsz
    have hlow := Lib.hid (below_putObj (D := W0.heap.size) hI.low (by omega) (.deferred none))
    have hown := Lib.hid ((own_putObj ho g1 (.deferred none)).mono (Nat.le_succ _))
    clear hsz
    rcases ho.2 with ⟨rfl, h0⟩ | ⟨g, c, cur, rfl, hg, hcur, hnc, hcm, hk⟩
    · clear hI hK hb ho hT0 hyi h0 g1
      gi_wp2_with (refine ⟨trivial, ?_⟩; gi_at_call 23; refine (callsIn_wide.2 (clip_cmds _ _ _ _ (by omega))).mono ?_; rintro e w' ⟨rfl, rfl⟩)
      refine ⟨by simp, .inl ⟨_, _, rfl, run_takeDeferred HK.out, ?_⟩⟩
      exact ⟨_, results_tmp rfl _ _ _, _, 0, hown.out, hlow.out, .inl ⟨rfl, rfl⟩⟩
    · clear hI hK hb ho hT0 hyi hk hcm g1
      gi_wp2_with (refine ⟨trivial, ?_⟩; gi_at_call 23; refine (callsIn_wide.2 (clip_cmds _ _ _ _ hnc)).mono ?_; rintro e w' ⟨rfl, rfl⟩)
      refine ⟨by simp, .inl ⟨_, _, rfl, run_takeDeferred HK.out, ?_⟩⟩
      exact ⟨_, results_tmp rfl _ _ _, _, c, hown.out, hlow.out, .inr ⟨g, rfl, rfl⟩⟩
theorem parse_any (A : Option Addr) (cap : Nat) (l : List UInt8) (w : World) (hlay : Lay w) (hs : Sl w A l) (hn : l.length ≤ cap) (hc : cap ≤ 9223372036854775807) :
    Calls Tryd.prog 10 #[.slice A l.length cap] w (Parsed w l) :=
  callsIn_wide.1 (parse_in 3 A cap l w hlay hs hn hc (Nat.le_refl _))
end Go.Proofs.YtlgfdemggkiojaaDoor
