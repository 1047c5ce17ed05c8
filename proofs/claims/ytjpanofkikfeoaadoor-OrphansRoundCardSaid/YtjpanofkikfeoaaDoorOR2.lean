/-
  What stands while OrphansRound stores its words, and while it takes; condition: all lies as it says.
-/
import Derived.Test.YtjpanofkikfeoaaDoorOR1
import Derived.Test.YtjpanofkikfeoaaDoorOD5
import Derived.Test.YtjpanofkikfeoaaDoorD6
import Derived.Test.YtjpanofkikfeoaaDoorOL1
namespace Go.Proofs.YtjpanofkikfeoaaDoor
open Go.RowKit Go.Maps

section
variable {p m b c : Nat} {w w' : World}
theorem both_store (h : Both p m b c w) (hl : LayM w) (hc : c ≤ 900) (x : Ad) (v : Int) (hv : (Lit.int .u64 v).wf = true) :
    Calls Tryd.prog 9 #[.agg #[.pointer (some ⟨p, 0, none⟩), .pointer (some ⟨b, 0, none⟩)], .agg #[.int .u8 x.k, .int .i64 x.a, .int .i64 x.f, .int .u64 v]] w fun e W' => e = .returned (.tuple #[]) ∧ Both p m b (c + 1) W' ∧ Fr p m b w W' := by
  obtain ⟨n, D, s, L, hP, hr, hL, hn, h0, h1⟩ := h
  refine (pair_store2 x v hv hP hr hl h0 (by omega) (by omega) (by omega)).mono ?_
  rintro e W' ⟨rfl, hP', hf⟩
  have := storeA_len L x v
  exact ⟨rfl, ⟨_, _, _, _, hP', hr.store x v, by omega, by show ((n + 1 : Nat) : Int) ≤ s.st + 1; omega, by show 0 ≤ s.st + 1; omega, by show s.st + 1 ≤ _; push_cast; omega⟩, hf⟩
end
/-- The pair of memories in its box, and where the law's own memory begins. -/
structure RdS (W : World) (p m b T c : Nat) (w : World) : Prop where
  both : Both p m b c w
  low : Below W.heap.size W w
  hm : W.heap.size ≤ m
  lay : Lay w
  laym : LayM w
  box : Bq T 27 [.pointer (some ⟨p, 0, none⟩), .pointer (some ⟨b, 0, none⟩)] w
section
variable {W w w' : World} {p m b T c : Nat}
theorem RdS.below (h : RdS W p m b T c w) (hb : Below w.heap.size w w') : RdS W p m b T c w' := ⟨h.both.below hb, h.low.trans (hb.mono h.low.size), h.hm, h.lay.below hb, h.laym.below hb, h.box.below hb⟩
theorem RdS.mono {c' : Nat} (h : RdS W p m b T c w) (hc : c ≤ c') : RdS W p m b T c' w := ⟨h.both.mono hc, h.low, h.hm, h.lay, h.laym, h.box⟩
theorem RdS.store (h : RdS W p m b T c w) (h1W : 1 < W.heap.size) (hc : c ≤ 900) (x : Ad) (v : Int) (hv : (Lit.int .u64 v).wf = true) {k a f : Int} (hx : x.k = k ∧ x.a = a ∧ x.f = f) :
    Calls Tryd.prog 9 #[.agg #[.pointer (some ⟨p, 0, none⟩), .pointer (some ⟨b, 0, none⟩)], .agg #[.int .u8 k, .int .i64 a, .int .i64 f, .int .u64 v]] w fun e w' => e = .returned (.tuple #[]) ∧ RdS W p m b T (c + 1) w' := by
  obtain ⟨rfl, rfl, rfl⟩ := hx
  refine (both_store h.both h.laym hc x v hv).mono ?_
  rintro e w' ⟨rfl, hB, hf⟩
  have hx : FxL W.heap.size p b [] w w' := .of_fr hf h.hm
  exact ⟨rfl, hB, h.low.trans hx.low, h.hm, hx.lay h1W h.lay, hx.laym h1W h.laym, fxl_box hx h.both (fun y hy => by cases hy) h.box (by decide)⟩
/-- Between two steps of the Take. -/
structure RdT (W : World) (p m b T Z q K c : Nat) (i : Int) (o : OG) (M : MV) (w : World) : Prop where
  bm : BothM p m b c M w
  low : Below W.heap.size W w
  hm : W.heap.size ≤ m
  lay : Lay w
  laym : LayM w
  box : Bq T 27 [.pointer (some ⟨p, 0, none⟩), .pointer (some ⟨b, 0, none⟩)] w
  bz : Bq Z 42 [.pointer none, .pointer (some ⟨q, 0, none⟩), .pointer (some ⟨K, 0, none⟩)] w
  j : ∃ x : JO, x.kd = 1 ∧ x.q = q ∧ x.K = K ∧ JOk W.heap.size x o w
  rem : remT o ≤ 1282 - i
  h2 : o.ln = 2 → M.V adO = o.h
  g : o.g = []
section
variable {Z q K : Nat} {i : Int} {o : OG} {M : MV}
theorem RdT.below (h : RdT W p m b T Z q K c i o M w) (hb : Below w.heap.size w w') : RdT W p m b T Z q K c i o M w' := by
  obtain ⟨x, h1, h2, h3, J⟩ := h.j
  exact ⟨h.bm.below hb, h.low.trans (hb.mono h.low.size), h.hm, h.lay.below hb, h.laym.below hb, h.box.below hb, h.bz.below hb, ⟨x, h1, h2, h3, J.below hb⟩, h.rem, h.h2, h.g⟩
theorem RdT.line (h : RdT W p m b T Z q K c i o M w) : w.cell? ⟨K, 0, none⟩ = some (.int .i64 o.ln) := by
  obtain ⟨x, h1, h2, rfl, J⟩ := h.j
  obtain ⟨vg, vv, k, _⟩ := J.doc
  exact k.c12.1
theorem RdT.step (h : RdT W p m b T Z q K c i o M w) (h1W : 1 < W.heap.size) (hc : c ≤ 4900) (h0 : o.ln ≠ 0) :
    Calls Tryd.prog 12 #[.agg #[.pointer none, .pointer (some ⟨q, 0, none⟩), .pointer (some ⟨K, 0, none⟩)], .agg #[.pointer (some ⟨p, 0, none⟩), .pointer (some ⟨b, 0, none⟩)]] w fun e w' => e = .returned (.bool true) ∧ RdT W p m b T Z q K (c + 1) (i + 1) (oX o M).1 (oX o M).2 w' := by
  obtain ⟨x, hk, rfl, rfl, J⟩ := h.j
  have hr := remT_step h.g J.num h.h2 h0
  refine (op_take h1W h.hm h.low.size hc h.bm h.lay h.laym J hk).mono ?_
  rintro e w' ⟨rfl, hx, hb, x', ⟨e1, e2, e3, _⟩, J'⟩
  exact ⟨rfl, hb, h.low.trans hx.low, h.hm, hx.lay h1W h.lay, hx.laym h1W h.laym, fxl_box hx h.bm.both J.own h.box (by decide), fxl_box hx h.bm.both J.own h.bz (by decide), ⟨x', by rw [e1, hk], e2, e3, J'⟩, by have := h.rem; omega, hr.2, by rw [oX_g]; exact h.g⟩
theorem RdT.over (h : RdT W p m b T Z q K c i o M w) (h0 : o.ln = 0) : Calls Tryd.prog 14 #[.pointer (some ⟨q, 0, none⟩)] w fun e w' => e = .returned (.bool true) ∧ w' = w := by
  obtain ⟨x, hk, rfl, rfl, J⟩ := h.j
  have hp := J.prg
  rw [hk] at hp
  refine (overT_all J.num hp).mono ?_
  rintro e w' ⟨rfl, rfl⟩
  exact ⟨by rw [h0]; rfl, rfl⟩
theorem RdT.got (h : RdT W p m b T Z q K c i o M w) : Calls Tryd.prog 15 #[.pointer (some ⟨q, 0, none⟩)] w fun e w' => ∃ A n k, e = .returned (.slice A n k) ∧ (n : Int) ≤ 256 ∧ Below w.heap.size w w' := by
  obtain ⟨x, hk, rfl, rfl, J⟩ := h.j
  have hp := J.prg
  rw [hk] at hp
  refine (gotT_all J.num hp).mono ?_
  rintro e w' ⟨A, k, xs, hxs, rfl, _, hb⟩
  have hl := (J.num.tk h.g).2.1
  refine ⟨A, _, k, rfl, ?_, hb⟩
  rw [hxs]
  split
  · omega
  · exact (by decide : ((0 : Nat) : Int) ≤ 256)
/-- The Takes are new. -/
theorem RdT.new {fp : List Nat} {w3 w4 w5 : World} (h : RdS W p m b T c w3) (hc : c ≤ 4900) (h4 : Below w3.heap.size w3 w4) (hf : ∀ y ∈ fp, w3.heap.size ≤ y) (R : PRepO true q fp newT w4) (h5 : Below w4.heap.size w4 w5) (hK : w4.heap.size ≤ K) (k : Bk K 50 (RD newT (.slice none 0 0) (.slice none 0 0)) w5) :
    ∃ M, RdT W p m b T w5.heap.size q K c 0 newT M (w5.alloc (.cells #[.pointer none, .pointer (some ⟨q, 0, none⟩), .pointer (some ⟨K, 0, none⟩)] 42)) := by
  have hA : Below w5.heap.size w5 (w5.alloc (.cells #[.pointer none, .pointer (some ⟨q, 0, none⟩), .pointer (some ⟨K, 0, none⟩)] 42)) := (Below.refl _ _).alloc (Nat.le_refl _) _
  have h35 := h4.trans (h5.mono h4.size)
  have h3A := h35.trans (hA.mono h35.size)
  have S := h.below h3A
  obtain ⟨M, hM⟩ := S.both.toM hc
  have hW3 := h.low.size
  have hlt : ∀ y ∈ fp, y < w4.heap.size := fun y hy => by obtain ⟨t, cs, kk, _⟩ := R.own y hy; exact kk.lt
  have J : JOk W.heap.size ⟨1, q, K, fp, [K]⟩ newT w5 := by
    refine ⟨ONum.newT, by simp [newT], Nat.le_refl 1, R.same fun y hy => h5.block y (hlt y hy), ⟨_, _, k, ⟨OwnE.nil _ _, OwnE.nil _ _, (fun x hx => by cases hx)⟩, rfl⟩, fun y hy hy2 => ?_, fun y hy => by have := hf y hy; omega, ?_⟩
    · have := hlt y hy
      obtain rfl := List.mem_singleton.1 hy2
      omega
    · have := h4.size; show W.heap.size ≤ K; omega
  exact ⟨M, hM, S.low, S.hm, S.lay, S.laym, S.box, Bq.new w5 [.pointer none, .pointer (some ⟨q, 0, none⟩), .pointer (some ⟨K, 0, none⟩)] _, ⟨⟨1, q, K, fp, [K]⟩, rfl, rfl, rfl, J.below hA⟩, by rw [remT_new]; omega, fun h => by simp [newT] at h, rfl⟩
end
end
end Go.Proofs.YtjpanofkikfeoaaDoor
