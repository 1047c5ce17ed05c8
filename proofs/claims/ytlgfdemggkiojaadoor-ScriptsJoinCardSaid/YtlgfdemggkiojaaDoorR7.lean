/-
  The document's Parse of layer 3: all commands, in memory of their own; condition: the bytes lie as it says.
-/
import Derived.Test.YtlgfdemggkiojaaDoorR6
import Derived.Test.YtlgfdemggkiojaaDoorW2
namespace Go.Proofs.YtlgfdemggkiojaaDoor
open Go.RowKit

theorem nextC_in (l : List UInt8) (p : Nat) (h : p < (l.take most).length) : nextC l p = some ((dec ((l.take most).drop p)).shift p) := by
  have e : nextC l p = some ((dec ((l.take most).drop ((p : Int)).toNat)).shift p) := if_pos (by omega)
  rw [e]
  rfl
theorem nextC_out (l : List UInt8) (p : Nat) (h : ¬ p < (l.take most).length) : nextC l p = none := if_neg (by omega)
theorem drop_ne {t : List UInt8} {p : Nat} (h : p < t.length) : t.drop p ≠ [] := by
  intro e
  have := congrArg List.length e
  simp at this
  omega
theorem parse_step (t : List UInt8) (p : Nat) (h : p < t.length) : parseFrom p (t.drop p) = (dec (t.drop p)).shift p :: parseFrom (p + dlen (t.drop p)) (t.drop (p + dlen (t.drop p))) := by
  rw [parseFrom_cons p _ (drop_ne h), List.drop_drop]
theorem parse_end (t : List UInt8) (p : Nat) (h : ¬ p < t.length) : parseFrom p (t.drop p) = [] := by
  rw [List.drop_of_length_le (by omega), parseFrom_nil]
theorem parseC_length (l : List UInt8) : (parseC l).length ≤ 65536 := by
  have h := parseFrom_length 0 (l.take most)
  rw [List.length_take] at h
  have hm := most_eq
  unfold parseC
  omega
theorem shift_to (b : List UInt8) (p : Nat) : ((dec b).shift p).to = ((p + dlen b : Nat) : Int) := by
  have h := dec_to b
  show (dec b).to + (p : Int) = _
  rw [h]
  omega
/-- What stands between two rounds. -/
structure RAt (w0 : World) (l : List UInt8) (pre : List Cm) (p : Nat) (v : Value) (w : World) : Prop where
  own : w.ownsRow w0.heap.size 38 9 v pre.length (flatR pre)
  le : p ≤ (l.take most).length
  eq : parseC l = pre ++ parseFrom p ((l.take most).drop p)
  low : Below w0.heap.size w0 w
theorem RAt.done {w0 : World} {l : List UInt8} {pre : List Cm} {p : Nat} {v : Value} {w : World} (h : RAt w0 l pre p v w) (hp : ¬ p < (l.take most).length) : parseC l = pre := by
  rw [h.eq, parse_end _ _ hp, List.append_nil]
theorem RAt.len {w0 : World} {l : List UInt8} {pre : List Cm} {p : Nat} {v : Value} {w : World} (h : RAt w0 l pre p v w) : pre.length ≤ 65536 := by
  have h1 := parseC_length l
  rw [h.eq, List.length_append] at h1
  omega
theorem RAt.lt {w0 : World} {l : List UInt8} {pre : List Cm} {p : Nat} {v : Value} {w : World} (h : RAt w0 l pre p v w) (hp : p < (l.take most).length) : pre.length + 1 ≤ 65536 := by
  have h1 := parseC_length l
  rw [h.eq, parse_step _ _ hp, List.length_append, List.length_cons] at h1
  omega
theorem RAt.next {w0 : World} {l : List UInt8} {pre : List Cm} {p : Nat} {v v' : Value} {w w' : World} (h : RAt w0 l pre p v w) (hp : p < (l.take most).length)
    (ho : w'.ownsRow w0.heap.size 38 9 v' (pre.length + 1) (flatR pre ++ rC ((dec ((l.take most).drop p)).shift p))) (hb : Below w0.heap.size w0 w') :
    RAt w0 l (pre ++ [(dec ((l.take most).drop p)).shift p]) (p + dlen ((l.take most).drop p)) v' w' := by
  have hd := dlen_bd _ (drop_ne hp)
  rw [List.length_drop] at hd
  refine ⟨?_, by omega, ?_, hb⟩
  · rw [flatR_snoc, List.length_append]
    exact ho
  · rw [h.eq, parse_step _ _ hp, List.append_assoc]
    rfl
/-- What Parse hands back. -/
def RParsed (w0 : World) (l : List UInt8) (e : Ending) (w' : World) : Prop :=
  ∃ v, e = .returned v ∧ w'.ownsRow w0.heap.size 38 9 v (parseC l).length (flatR (parseC l)) ∧ Below w0.heap.size w0 w'

set_option maxRecDepth 100000 in
set_option maxHeartbeats 4000000 in
theorem rparse_any (A : Option Addr) (cap : Nat) (l : List UInt8) (w : World) (hs : Sl w A l) (hn : l.length ≤ cap) (hc : cap ≤ 9223372036854775807) :
    Calls Tryd.prog 11 #[.slice A l.length cap] w (RParsed w l) := by
  obtain ⟨i0, hi, hz0, hz1, hz2⟩ := info_parts Tryd_info38
  have H0 := Lib.hid (⟨World.ownsRow_nil w _ _ _, Nat.zero_le _, by rw [List.drop_zero, List.nil_append]; rfl, Below.refl _ _⟩ : RAt w l [] 0 (.slice none 0 0) w)
  have HS := Lib.hid hs
  clear hs
  go_enter Tryd.func11, Tryd.ntmps11
  go_wp2_with fail
  go_loopw [3, 4] (fun v i wr => ∃ (pre : List Cm) (p : Nat), i = .int .i64 (p : Int) ∧ RAt w l pre p v wr) (fun _ i _ => (l.take most).length - (intOf i).toNat)
  case atStart => exact ⟨[], 0, rfl, H0.out⟩
  case round =>
    obtain ⟨pre, p, rfl, hr⟩ := hrel
    have HR := Lib.hid hr
    have hsr := HS.out.below (w' := wr) (hr.low.mono (Nat.le_refl _))
    clear hr
    by_cases hlt : p < (l.take most).length
    · have hnx := rnext_some A cap l p _ wr hsr hn hc (nextC_in l p hlt)
      have hto := shift_to ((l.take most).drop p) p
      obtain ⟨c, hcd⟩ : ∃ c, (dec ((l.take most).drop p)).shift p = c := ⟨_, rfl⟩
      rw [hcd] at hnx hto
      have HC := Lib.hid hcd
      have HT := Lib.hid hto
      have HN := Lib.hid hnx
      clear hcd hto hnx hsr
      go_wp2_with fail
      refine HN.out.mono ?_
      rintro e w1 ⟨rfl, hb1⟩
      have HB1 := Lib.hid hb1
      have hbase : w.heap.size ≤ w1.heap.size := Nat.le_trans HR.out.low.size hb1.size
      have hln := HR.out.lt hlt
      have HL := Lib.hid (((HR.out.low.trans (hb1.mono HR.out.low.size)).alloc hbase (.cells (rC c).toArray 38)).alloc (by simp; omega) (.cells (rC c).toArray 38))
      have hnb : ∀ v, RAt w l pre p v wr → some w1.heap.size ≠ v.ownBlock := fun v hv e => by
        have h1 := (hv.own.lt _ e.symm).2
        have h2 := hb1.size
        omega
      have HNB := Lib.hid hnb
      have hc2 : ((w1.alloc (.cells (rC c).toArray 38)).alloc (.cells (rC c).toArray 38)).cell? ⟨w1.heap.size, 2, none⟩ = some (.int .i64 c.to) := by simp [go_sem, rC]
      have HC2 := Lib.hid hc2
      simp only [someCmdR, Cm.r]
      clear hb1 HN hnb hc2
      go_wp2_with (at_builtin; refine wpList_append_own _ rfl (.tmp 16) (.tmp 18) _ rfl w.heap.size 38 i0 _ 9 72 Tryd.underlying27 hi hz0 hz1 hz2 rfl (by decide) _ pre.length (flatR pre) rfl (((own_low HR.out.own HB1.out).alloc _).alloc _) ⟨w1.heap.size + 1, 0, none⟩ 1 1 (rC c) rfl rfl (by have := cells_new (w1.alloc (.cells (rC c).toArray 38)) 38 (rC c); rwa [World.size_alloc] at this) (rC_one c) (by unfold maxLen; omega) (by omega) (by simp; omega) ?_; intro v' w2 hown' hgrow _; have c2 := cell_grown hgrow HC2.out (HNB.out _ HR.out); have HO := Lib.hid hown'; have HG := Lib.hid (HL.out.grown hgrow (by simp; omega) (fun k hk => (HR.out.own.lt k hk).1)); clear hown' hgrow)
      go_roundw
      case rel =>
        have hn' := HR.out.next (v' := v') (w' := w2) hlt (by rw [HC.out]; exact HO.out) HG.out
        rw [HC.out] at hn'
        exact ⟨_, _, by rw [HT.out], hn'⟩
      case measure =>
        have hd := dlen_bd _ (drop_ne hlt)
        rw [List.length_drop] at hd
        simp only [intOf, HT.out, Int.toNat_natCast]
        omega
    · have hnx := rnext_none A cap l p wr hn hc (nextC_out l p hlt)
      have HN := Lib.hid hnx
      clear hnx hsr
      go_wp2_with fail
      refine HN.out.mono ?_
      rintro e w1 ⟨rfl, hb1⟩
      have HB1 := Lib.hid hb1
      simp only [noCmdR]
      clear hb1 HN
      go_wp2_with fail
      go_ret
      refine ⟨_, rfl, ?_, (HR.out.low.trans (HB1.out.mono HR.out.low.size)).alloc (Nat.le_trans HR.out.low.size HB1.out.size) _⟩
      rw [HR.out.done hlt]
      exact (own_low HR.out.own HB1.out).alloc _
end Go.Proofs.YtlgfdemggkiojaaDoor
