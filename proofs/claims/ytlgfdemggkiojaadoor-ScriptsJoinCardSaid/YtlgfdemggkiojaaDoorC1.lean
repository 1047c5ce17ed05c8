/-
  What the laws ScriptsCover and ScriptsJoin ask: a command and its bytes, step by step; a slice of bytes put behind a row of the call's own; Write of one command; no condition of its own.
-/
import Derived.Test.YtlgfdemggkiojaaDoorL4b
import Derived.Laws.AppendOwnNone
import Derived.OwnWalk
namespace Go.Proofs.YtlgfdemggkiojaaDoor
open Go.RowKit

/-- What one command of a script is. -/
structure CoverAt (m : List UInt8) (p d : Nat) (c : Cm) : Prop where
  lt : p < m.length
  d1 : 1 ≤ d
  d5 : d ≤ 5
  le : p + d ≤ m.length
  fr : c.fr = (p : Int)
  «to» : c.to = ((p + d : Nat) : Int)
  fit : c.Fit
  k9 : c.kind ≤ 9
  none : c.kind = 0 → c = ⟨0, (p : Int), ((p + d : Nat) : Int), 0, 0, 0, 0, 0, 0⟩ ∧ 128 ≤ byt m p
  some : c.kind ≠ 0 → mayC c = true ∧ codeC c = (m.drop p).take d
theorem shift_kind (c : Cm) (o : Int) : (c.shift o).kind = c.kind := rfl
theorem shift_fr (c : Cm) (o : Int) : (c.shift o).fr = c.fr + o := rfl
theorem noneC_at (n p : Nat) : (noneC (n : Int)).shift (p : Int) = ⟨0, (p : Int), ((p + n : Nat) : Int), 0, 0, 0, 0, 0, 0⟩ := by
  unfold noneC Cm.shift
  simp only [Int.zero_add, Cm.mk.injEq, true_and, and_true]
  omega
theorem cover_at {m : List UInt8} {p : Nat} (h : p < m.length) : CoverAt m p (dlen (m.drop p)) ((dec (m.drop p)).shift p) := by
  have hne := drop_ne h
  have hd := dlen_bd _ hne
  have hl : (m.drop p).length = m.length - p := List.length_drop
  have hfr := dec_fr (m.drop p)
  have hto := shift_to (m.drop p) p
  have hk0 : (dec (m.drop p)).kind = 0 → dec (m.drop p) = noneC (dlen (m.drop p) : Int) ∧ 128 ≤ byt (m.drop p) 0 := fun h => dec_none_kind _ h hne
  have hk1 := dec_may (m.drop p)
  have hfit := dec_fit (m.drop p)
  rw [byt_drop] at hk0
  generalize dec (m.drop p) = D at *
  refine ⟨h, hd.1, hd.2.1, by omega, by rw [shift_fr, hfr]; omega, hto, shift_fit hfit _, ?_, fun h0 => ?_, fun h0 => ?_⟩
  · rw [shift_kind]
    by_cases h0 : D.kind = 0
    · omega
    · exact (mayC_kind (hk1 h0).1).2.1
  · obtain ⟨h1, h2⟩ := hk0 h0
    exact ⟨by rw [h1]; exact noneC_at _ _, h2⟩
  · rw [mayC_shift, codeC_shift]
    exact hk1 h0
theorem cover_step {l : List UInt8} {k p : Nat} {c : Cm} (hk : (parseC l)[k]? = some c) (hp : p ≤ (l.take most).length) (h : parseFrom p ((l.take most).drop p) = (parseC l).drop k) :
    ∃ d, CoverAt (l.take most) p d c ∧ parseFrom (p + d) ((l.take most).drop (p + d)) = (parseC l).drop (k + 1) := by
  obtain ⟨hlt, rfl⟩ := List.getElem?_eq_some_iff.1 hk
  have hpl : p < (l.take most).length := by
    refine Nat.lt_of_not_le fun hge => ?_
    rw [parse_end _ _ (by omega)] at h
    have := congrArg List.length h
    rw [List.length_drop, List.length_nil] at this
    omega
  rw [parse_step _ _ hpl, List.drop_eq_getElem_cons hlt] at h
  injection h with h1 h2
  exact ⟨_, by rw [← h1]; exact cover_at hpl, h2⟩
theorem cover_end {l : List UInt8} {p : Nat} (hp : p ≤ (l.take most).length) (h : parseFrom p ((l.take most).drop p) = (parseC l).drop (parseC l).length) : p = min l.length 65536 := by
  have hm := most_eq
  have hl : (l.take most).length = min most l.length := List.length_take
  by_cases hpl : p < (l.take most).length
  · rw [List.drop_length, parse_step _ _ hpl] at h
    cases h
  · omega
theorem byt_most {l : List UInt8} {p : Nat} (h : p < (l.take most).length) : byt (l.take most) p = byt l p := by
  rw [List.length_take] at h
  exact byt_take l most p (by omega)
/-- A slice of bytes goes behind a row of the call's own. -/
theorem append_byts {w : World} {ops : Array Oper} {rest : List Oper} {o : Oper} {a : Act} {Q : Exit → Act → World → Prop} (hgd : o.guard = none) (s x : Operand)
    (ho : o.op = .call { callee := .builtin .append, args := #[s, x], argTypes := #[22, 22] })
    (base : Nat) (v : Value) (xs : List UInt8) (hs : a.eval s = v) (hown : w.ownsRow base 5 1 v xs.length (xs.map bC)) (A : Option Addr) (cap : Nat) (l : List UInt8) (hx : a.eval x = .slice A l.length cap)
    (hsl : Sl w A l) (hcap : A = none → cap = 0) (hlen : xs.length + l.length ≤ 1000000) (hbase : base ≤ w.heap.size)
    (h : ∀ v' w', w'.ownsRow base 5 1 v' (xs ++ l).length ((xs ++ l).map bC) → Below base w w' → wpList Tryd.prog ops Q rest (a.put o.dst v') w') : wpList Tryd.prog ops Q (o :: rest) a w := by
  obtain ⟨i0, hi, hz0, hz1, hz2⟩ := info_parts Tryd_info5
  cases A with
  | none =>
    have hl : l = [] := List.eq_nil_of_length_eq_zero (sl_none hsl rfl)
    subst hl
    rw [hcap rfl] at hx
    refine wpList_append_own_none hgd s x 22 ho base 5 i0 1 Tryd.underlying22 hi v xs.length (xs.map bC) hs hown hx ?_
    refine h v w ?_ (Below.refl _ _)
    rw [List.append_nil]
    exact hown
  | some ad =>
    refine wpList_append_own _ hgd s x 22 ho base 5 i0 _ 1 1 Tryd.underlying22 hi hz0 hz1 hz2 rfl (by decide) v xs.length (xs.map bC) hs hown ad l.length cap (l.map bC) hx (by rw [List.length_map, Nat.mul_one]) (sl_cells hsl ad rfl) (bC_one _) (by unfold maxLen; omega) (by omega) hbase ?_
    intro v' w' h1 h2 _
    refine h v' w' ?_ ((Below.refl _ _).grown h2 hbase (fun k hk => (hown.lt k hk).1))
    rw [List.length_append, List.map_append]
    exact h1
theorem flatB_one (c : Cm) : flatB [c] = codeC c := by simp [flatB]
/-- Write of one command that may be. -/
theorem write_one (g : Nat) (c : Cm) (w : World) (hlay : Lay w) (hs : Cms w g 0 [c]) (hf : c.Fit) (hm : mayC c = true) :
    Calls Tryd.prog 19 #[.slice (some ⟨g, 0, none⟩) 1 1] w fun e w' => ∃ A cc, e = .returned (.tuple #[.slice A (codeC c).length cc, .bool true]) ∧ Sl w' A (codeC c) ∧ Below w.heap.size w w' := by
  have hall : [c].all mayC = true := by simp [hm]
  refine (write_s (some ⟨g, 0, none⟩) 1 [c] w hlay (fun _ => ⟨g, 0, rfl, hs⟩) (fun d hd => by rw [List.mem_singleton.1 hd]; exact hf) (by simp)).mono ?_
  rintro e w' ⟨A, cc, rfl, _, _, h3, h4⟩
  rw [wroteB_yes hall, flatB_one] at h3 ⊢
  rw [hall]
  exact ⟨A, cc, rfl, h3, h4⟩
theorem slice_byts (g n cap p d : Nat) (u : Int) (hu : u = ((p + d : Nat) : Int)) (hd : 1 ≤ d) (hn : p + d ≤ n) (hc : n ≤ cap) (W : World) :
    (Instr.sliceAt 22 (.slice (some ⟨g, 0, none⟩) n cap) (some (.int .i64 (p : Int))) (some (.int .i64 u)) none).run Tryd.prog W = .ok (.slice (some ⟨g, p, none⟩) d (cap - p)) W := by
  subst hu
  have hz := Tryd.sizeOf5
  have he : Tryd.prog.elem 22 = 5 := by kernel_rfl
  have ht : Tryd.prog.underlying 22 = some (.slice (Tryd.prog.elem 22)) := by kernel_rfl
  rw [run_sliceAt_slice W 22 _ _ _ _ ht, run_slice_lh W 22 (some ⟨g, 0, none⟩) n cap ht .i64 .i64 (p : Int) ((p + d : Nat) : Int) (by omega) (by omega) (by omega), he, hz]
  have e1 : ((p : Int)).toNat = p := by omega
  have e2 : (((p + d : Nat) : Int)).toNat = p + d := by omega
  simp only [sliced, Result.andThen, e1, e2]
  rw [if_neg (by omega)]
  simp [Addr.add_lit]
end Go.Proofs.YtlgfdemggkiojaaDoor
