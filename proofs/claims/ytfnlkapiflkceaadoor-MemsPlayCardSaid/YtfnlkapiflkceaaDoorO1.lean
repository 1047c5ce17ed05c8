/-
  What the law MemsOne asks of the memory, in plain words, and the calls that it makes one by one; condition: two unlike addresses that may be, numbers of their kinds.
-/
import Derived.Test.YtfnlkapiflkceaaDoorE1
import Derived.Test.YtfnlkapiflkceaaDoorA1
import Derived.Laws.StructEq
namespace Go.Proofs.YtfnlkapiflkceaaDoor
open Go.RowKit Go.Maps

def Ad.same (x y : Ad) : Bool := x.k == y.k && x.a == y.a && x.f == y.f
theorem Ad.same_iff (x y : Ad) : x.same y = true ↔ x = y := by
  unfold Ad.same
  constructor
  · intro h
    simp at h
    exact Ad.ext ⟨h.1.1, h.1.2, h.2⟩
  · rintro rfl
    simp
set_option maxRecDepth 100000 in
theorem eq_addr (k a f k' a' f' : Int) (w : World) : (binOp .eql 31 (.agg #[.int .u8 k, .int .i64 a, .int .i64 f]) (.agg #[.int .u8 k', .int .i64 a', .int .i64 f'])).run Tryd.prog w = .ok (.bool (k == k' && a == a' && f == f')) w := by
  have hS : Tryd.prog.underlying 31 = some (.struct (Tryd.prog.fieldsOf 31)) := by kernel_rfl
  have hp : Tryd.prog.stoodInHeld 31 = false := by kernel_rfl
  have u3 := Tryd.underlying3
  have a3 := Tryd.isAgg3
  have z3 := Tryd.sizeOf3
  have u29 := Tryd.underlying29
  have a29 := Tryd.isAgg29
  have z29 := Tryd.sizeOf29
  rw [run_eql_struct, show (10000 : Nat) = 9999 + 1 from rfl, run_equalIn_agg w 9999 31 _ _ hS hp]
  simp only [Program.fieldsOf, Tryd.underlying31]
  go_simp
  by_cases h1 : k = k' <;> by_cases h2 : a = a' <;> by_cases h3 : f = f' <;> simp [h1, h2, h3]
set_option maxRecDepth 100000 in
theorem eq_word (k a f v : Int) (w : World) : (binOp .eql 43 (.agg #[.int .u8 k, .int .i64 a, .int .i64 f, .int .u64 v]) (.agg #[.int .u8 k, .int .i64 a, .int .i64 f, .int .u64 v])).run Tryd.prog w = .ok (.bool true) w := by
  have hS : Tryd.prog.underlying 43 = some (.struct (Tryd.prog.fieldsOf 43)) := by kernel_rfl
  have hp : Tryd.prog.stoodInHeld 43 = false := by kernel_rfl
  have hS1 : Tryd.prog.underlying 31 = some (.struct (Tryd.prog.fieldsOf 31)) := by kernel_rfl
  have hp1 : Tryd.prog.stoodInHeld 31 = false := by kernel_rfl
  have u3 := Tryd.underlying3
  have a3 := Tryd.isAgg3
  have z3 := Tryd.sizeOf3
  have u29 := Tryd.underlying29
  have a29 := Tryd.isAgg29
  have z29 := Tryd.sizeOf29
  have a31 := Tryd.isAgg31
  have z31 := Tryd.sizeOf31
  have u32 := Tryd.underlying32
  have a32 := Tryd.isAgg32
  have z32 := Tryd.sizeOf32
  have e31 : ∀ w, (Op.equalIn 9999 31 (.agg #[.int .u8 k, .int .i64 a, .int .i64 f]) (.agg #[.int .u8 k, .int .i64 a, .int .i64 f])).run Tryd.prog w = .ok true w := fun w => by
    rw [show (9999 : Nat) = 9998 + 1 from rfl, run_equalIn_agg w 9998 31 _ _ hS1 hp1]
    simp only [Program.fieldsOf, Tryd.underlying31]
    go_simp
  rw [run_eql_struct, show (10000 : Nat) = 9999 + 1 from rfl, run_equalIn_agg w 9999 43 _ _ hS hp]
  clear hS1 hp1
  simp only [Program.fieldsOf, Tryd.underlying43]
  go_simp

theorem valOf_eq (D : DataW Unit) (x : Ad) : valOf D x = valD D x := by
  unfold valOf valD
  generalize D.atKey x.lit (.lit (.int .u64 0)) = d
  cases d with
  | lit l => cases l <;> rfl
  | _ => rfl

section
variable (x y : Ad) (a b c : Int)
def o1 : DataW Unit := putD (.map []) x a
def o2 : DataW Unit := putD (o1 x a) y b
def o3 : DataW Unit := putD (o2 x y a b) y c
def o5 : DataW Unit := putD (o3 x y a b c) y 0
theorem o1_map : IsMap (o1 x a) := isMap_putD isMap_empty _ _
theorem o2_map : IsMap (o2 x y a b) := isMap_putD (o1_map x a) _ _
theorem o3_map : IsMap (o3 x y a b c) := isMap_putD (o2_map x y a b) _ _
theorem o1_x : valD (o1 x a) x = a := valD_put_same _ isMap_empty _ _
theorem o1_y (h : x ≠ y) : valD (o1 x a) y = 0 := valD_put_other _ (Ne.symm h) _
theorem o2_x (h : x ≠ y) : valD (o2 x y a b) x = a := (valD_put_other _ h _).trans (o1_x x a)
theorem o2_y : valD (o2 x y a b) y = b := valD_put_same _ (o1_map x a) _ _
theorem o3_x (h : x ≠ y) : valD (o3 x y a b c) x = a := (valD_put_other _ h _).trans (o2_x x y a b h)
theorem o3_y : valD (o3 x y a b c) y = c := valD_put_same _ (o2_map x y a b) _ _
theorem o5_x (h : x ≠ y) : valD (o5 x y a b c) x = a := (valD_put_other _ h _).trans (o3_x x y a b c h)
theorem o5_has (h : x ≠ y) (z : Ad) : has (o5 x y a b c) z.lit = true ↔ (z = x ∧ a ≠ 0) := by
  by_cases e : z = y
  · subst e
    rw [show o5 x z a b c = putD (o3 x z a b c) z 0 from rfl, has_put_same' _ (o3_map x z a b c)]
    simp
    intro e
    exact absurd e.symm h
  · rw [show o5 x y a b c = putD (o3 x y a b c) y 0 from rfl, has_put_other' _ e, show o3 x y a b c = putD (o2 x y a b) y c from rfl, has_put_other' _ e, show o2 x y a b = putD (o1 x a) y b from rfl, has_put_other' _ e]
    by_cases e2 : z = x
    · subst e2
      rw [show o1 z a = putD (.map []) z a from rfl, has_put_same' _ isMap_empty]
      simp
    · rw [show o1 x a = putD (.map []) x a from rfl, has_put_other' _ e2]
      simp [e2, Maps.has]
theorem o5_zero (h : x ≠ y) (ha : a = 0) {w : World} {m n : Nat} (hown : w.ownsMap Tryd.prog 31 (plainElem Tryd.prog 32) m n (o5 x y a b c)) : Maps.size (o5 x y a b c) = 0 :=
  (own_size hown List.nodup_nil (fun z => by rw [o5_has x y a b c h]; simp [ha])).symm
theorem o5_one (h : x ≠ y) (ha : a ≠ 0) {w : World} {m n : Nat} (hown : w.ownsMap Tryd.prog 31 (plainElem Tryd.prog 32) m n (o5 x y a b c)) : Maps.size (o5 x y a b c) = 1 :=
  (own_size hown (ss := [x]) (by simp) (fun z => by rw [o5_has x y a b c h]; simp [ha])).symm
theorem o5_words (h : x ≠ y) (ha : a ≠ 0) {w : World} {m n : Nat} (hown : w.ownsMap Tryd.prog 31 (plainElem Tryd.prog 32) m n (o5 x y a b c)) {ts : List Ad} (ht : Addrs (o5 x y a b c) ts) : ts = [x] := by
  have hl : ts.length = 1 := by rw [ht.2.2, o5_one x y a b c h ha hown]
  obtain ⟨z, rfl⟩ := List.length_eq_one_iff.1 hl
  have hm := (ht.2.1 x).2 ((o5_has x y a b c h x).2 ⟨rfl, ha⟩)
  rw [List.mem_singleton.1 hm]
end
/-- What is told then. -/
def OnePost (x : Ad) (a : Int) (w : World) (e : Ending) (w' : World) : Prop :=
  ∃ g, e = .returned (.slice (some ⟨g, 0, none⟩) 1 1) ∧ w'.cell? ⟨g, 0, none⟩ = some (.int .u8 x.k) ∧ w'.cell? ⟨g, 1, none⟩ = some (.int .i64 x.a) ∧ w'.cell? ⟨g, 2, none⟩ = some (.int .i64 x.f) ∧ w'.cell? ⟨g, 3, none⟩ = some (.int .u64 a) ∧ Below w.heap.size w w'
theorem words_one (x y : Ad) (a b c : Int) (h : x ≠ y) (ha : a ≠ 0) (p m n : Nat) (st ak k i f was is : Int) (done : Bool) (w : World) (hp : PM p m n (o5 x y a b c) st ak k i f was is done w) : Calls Tryd.prog 16 #[.pointer (some ⟨p, 0, none⟩)] w (OnePost x a w) := by
  have hs := o5_one x y a b c h ha hp.own
  refine (words_any p m _ (o5 x y a b c) (by rw [hs]; omega) (by rw [hs]; omega) _ _ w hp.blk rfl hp.own).mono ?_
  rintro e w7 ⟨g, ts, rfl, hts, hrow, hb7⟩
  obtain rfl := o5_words x y a b c h ha hp.own hts
  have hfl : flatW (wordsOf (o5 x y a b c) [x]) = [.int .u8 x.k, .int .i64 x.a, .int .i64 x.f, .int .u64 a] := by
    have : valOf (o5 x y a b c) x = a := (valOf_eq _ _).trans (o5_x x y a b c h)
    show wordCells (x, valOf (o5 x y a b c) x) ++ [] = _
    rw [this]
    rfl
  rw [hfl] at hrow
  have r0 := hrow.cellAt 0 (by simp)
  have r1 := hrow.cellAt 1 (by simp)
  have r2 := hrow.cellAt 2 (by simp)
  have r3 := hrow.cellAt 3 (by simp)
  simp only [List.getElem?_cons_zero, List.getElem?_cons_succ] at r0 r1 r2 r3
  exact ⟨g, rfl, r0, r1, r2, r3, hb7⟩
end Go.Proofs.YtfnlkapiflkceaaDoor
