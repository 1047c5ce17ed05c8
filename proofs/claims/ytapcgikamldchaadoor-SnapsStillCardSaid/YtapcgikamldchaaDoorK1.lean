/-
  Addresses as keys: the key's text, and the address back from it; condition: numbers of their kinds.
-/
import Derived.Test.YtapcgikamldchaaDoorM1
import Derived.Test.YtapcgikamldchaaDoorR1
import Derived.DeepKeys2
import Derived.ChangeKeysEq
import Derived.Maps.Ext
namespace Go.Proofs.YtapcgikamldchaaDoor
open Go.RowKit Go.Maps

/-- An address whose numbers are of their kinds. -/
structure Ad where
  k : Int
  a : Int
  f : Int
  wk : (Lit.int .u8 k).wf = true
  wa : (Lit.int .i64 a).wf = true
  wf : (Lit.int .i64 f).wf = true
def Ad.v (x : Ad) : Value := addrV x.k x.a x.f
def Ad.lit (x : Ad) : Lit := .string (keyBytes [.int .u8 x.k, .int .i64 x.a, .int .i64 x.f])
theorem Ad.ext {x y : Ad} (h : x.k = y.k ∧ x.a = y.a ∧ x.f = y.f) : x = y := by
  cases x; cases y
  simp only at h
  obtain ⟨rfl, rfl, rfl⟩ := h
  rfl
theorem Ad.v_inj {x y : Ad} (h : x.v = y.v) : x = y := by
  simp [Ad.v, addrV] at h
  exact Ad.ext h
instance : Inhabited Ad := ⟨⟨0, 0, 0, by decide, by decide, by decide⟩⟩

theorem Ad.key (x : Ad) : keyOf Tryd.prog 42 x.v = some x.lit := by
  have hk := x.wk
  have ha := x.wa
  have hf := x.wf
  unfold keyOf Ad.v addrV
  rw [Tryd.underlying42]
  simp only [keyType31, Bool.true_and]
  have hform : Value.formed Tryd.prog 42 (.agg #[.int .u8 x.k, .int .i64 x.a, .int .i64 x.f]) = true := by
    simp [Value.formed, Tryd.underlying42, cells31]
  obtain ⟨d, hd⟩ : ∃ d, Tryd.prog.types.size + 1 = d + 2 := ⟨Tryd.prog.types.size - 1, by have := row31; omega⟩
  rw [if_pos hform, hd]
  simp [Program.keyLits, Tryd.underlying42, Tryd.underlying40, Tryd.underlying3, cells31, cells29, cells3, Value.cells, hk, ha, hf, Ad.lit]
theorem Ad.lit_key (x : Ad) : WideAt.IsKeyLit x.lit := addr_keyed.key x.key
theorem Ad.lit_inj {x y : Ad} (h : x.lit = y.lit) : x = y := Ad.v_inj (addr_keyed.inj x.key (h ▸ y.key))
theorem keyLits_int_wf {P : Program} {d : Nat} {t : TypeId} {q : IntKind} {cs : List Value} {l : List Lit} (hu : P.underlying t = some (.int q)) (h : P.keyLits (d + 1) t cs = some l) :
    ∃ n, cs = [.int q n] ∧ l = [.int q n] ∧ (Lit.int q n).wf = true := by
  obtain ⟨n, rfl, rfl⟩ := keyLits_int' hu h
  refine ⟨n, rfl, rfl, ?_⟩
  simpa [Program.keyLits, hu] using h

set_option maxRecDepth 100000 in
/-- What reads as a key is an address. -/
theorem Ad.of_key {v : Value} {l : Lit} (h : keyOf Tryd.prog 42 v = some l) : ∃ x : Ad, v = x.v ∧ l = x.lit := by
  obtain ⟨xs, L, rfl, hl, rfl⟩ := keyOf_top (by rw [Tryd.underlying42]) h
  obtain ⟨d, hd⟩ : ∃ d, Tryd.prog.types.size + 1 = d + 2 := ⟨Tryd.prog.types.size - 1, by have := row31; omega⟩
  rw [hd] at hl
  unfold Program.keyLits at hl
  rw [Tryd.underlying42] at hl
  simp only [cells31, cells29, cells3, List.mapM_cons, List.mapM_nil] at hl
  split at hl
  · rename_i hc
    have hlen := hc.1
    match hxs : xs.toList, hlen with
    | [c0, c1, c2], _ =>
      rw [hxs] at hl
      simp only [List.drop_zero, List.drop_succ_cons, List.take_succ_cons, List.take_zero, Option.map_eq_some_iff, bind, Option.bind_eq_some_iff, pure, Option.some.injEq] at hl
      obtain ⟨ls, ⟨l0, h0, r1, ⟨l1, h1, r2, ⟨l2, h2, r3, hr3, hr2⟩, hr1⟩, hls⟩, hL⟩ := hl
      obtain ⟨k, e0, rfl, wk⟩ := keyLits_int_wf Tryd.underlying40 h0
      obtain ⟨a, e1, rfl, wa⟩ := keyLits_int_wf Tryd.underlying3 h1
      obtain ⟨f, e2, rfl, wf⟩ := keyLits_int_wf Tryd.underlying3 h2
      subst hr3; subst hr2; subst hr1; subst hls; subst hL
      simp only [List.cons.injEq, and_true] at e0 e1 e2
      subst e0; subst e1; subst e2
      refine ⟨⟨k, a, f, wk, wa, wf⟩, ?_, rfl⟩
      unfold Ad.v addrV
      congr 1
      rw [← Array.toList_inj, hxs]
  · cases hl
end Go.Proofs.YtapcgikamldchaaDoor
