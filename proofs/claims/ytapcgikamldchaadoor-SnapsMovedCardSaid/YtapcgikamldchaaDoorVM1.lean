/-
  A memory of which each word is known, by its address: what each call on it does; condition: the tables as laid, the memory lies as it says, numbers of their kinds.
-/
import Derived.Test.YtapcgikamldchaaDoorF1
import Derived.Test.YtapcgikamldchaaDoorO0
namespace Go.Proofs.YtapcgikamldchaaDoor
open Go.RowKit Go.Maps

/-- A memory of which each word is known: its struct in block p, its map in block b, st steps. -/
structure VM (p b st : Nat) (V : Ad → Int) (w : World) : Prop where
  mem : ∃ n D ak k a f was is done, n ≤ st ∧ IsMap D ∧ PM p b n D (st : Int) ak k a f was is done w ∧ ∀ x, valD D x = V x
  lay : Lay w
  laym : LayM w
  p1 : 0 < p
  b1 : 0 < b
def eqA (y x : Ad) : Bool := y.k == x.k && y.a == x.a && y.f == x.f
theorem eqA_iff (y x : Ad) : eqA y x = true ↔ y = x := by
  unfold eqA
  constructor
  · intro h
    simp at h
    exact Ad.ext ⟨h.1.1, h.1.2, h.2⟩
  · rintro rfl
    simp
/-- A word is another one, where it may be. -/
def setV (V : Ad → Int) (x : Ad) (v : Int) : Ad → Int := fun y => if mayB x.k x.a x.f = true ∧ eqA y x = true then v else V y
def casV (V : Ad → Int) (x : Ad) (u : Int) : Bool := mayB x.k x.a x.f && decide (V x = u)
theorem setV_same {V : Ad → Int} {x : Ad} (h : mayB x.k x.a x.f = true) (v : Int) : setV V x v x = v := if_pos ⟨h, (eqA_iff x x).2 rfl⟩
theorem setV_other {V : Ad → Int} {x y : Ad} (h : y ≠ x) (v : Int) : setV V x v y = V y := if_neg fun k => h ((eqA_iff y x).1 k.2)
theorem setV_bars {V : Ad → Int} {x : Ad} (h : mayB x.k x.a x.f = false) (v : Int) : setV V x v = V := by
  funext y
  exact if_neg fun k => by rw [h] at k; cases k.1
theorem valD_store {D : DataW Unit} (hD : IsMap D) (x : Ad) (v : Int) (y : Ad) : valD (storeD D x v) y = setV (valD D) x v y := by
  by_cases hm : mayB x.k x.a x.f = true
  · rw [show storeD D x v = putD D x v from if_pos hm]
    by_cases e : y = x
    · subst e
      rw [valD_put_same D hD, setV_same hm]
    · rw [valD_put_other D e, setV_other e]
  · rw [show storeD D x v = D from if_neg hm, setV_bars (by simpa using hm)]
theorem isMap_store {D : DataW Unit} (hD : IsMap D) (x : Ad) (v : Int) : IsMap (storeD D x v) := by
  unfold storeD
  split
  · exact isMap_putD hD _ _
  · exact hD
section
variable {p b q st : Nat} {t : TypeId} {nx h to : Int} {V : Ad → Int} {w w' : World}
theorem VM.below (F : VM p b st V w) (hb : Below w.heap.size w w') : VM p b st V w' := by
  obtain ⟨⟨n, D, ak, k, a, f, was, is, done, h1, h2, h3, h4⟩, hl, hm, hp, hq⟩ := F
  exact ⟨⟨n, D, ak, k, a, f, was, is, done, h1, h2, h3.below hb, h4⟩, hl.below hb, hm.below hb, hp, hq⟩
theorem VM.lt (F : VM p b st V w) : p < w.heap.size ∧ b < w.heap.size := by
  obtain ⟨⟨n, D, ak, k, a, f, was, is, done, h1, h2, h3, h4⟩, _⟩ := F
  exact ⟨h3.lt, h3.own.lt⟩
theorem VM.u64 (F : VM p b st V w) (x : Ad) : U64 (V x) := by
  obtain ⟨⟨n, D, ak, k, a, f, was, is, done, h1, h2, h3, h4⟩, _⟩ := F
  rw [← h4]
  exact h3.val_u64 x
/-- Where the memory lies: a struct, a map. -/
theorem VM.objs (F : VM p b st V w) : (∃ cs, w.heap[p]? = some (.cells cs 90 (0, 0))) ∧ ∃ es c, w.heap[b]? = some (.map es c) := by
  obtain ⟨⟨n, D, ak, k, a, f, was, is, done, h1, h2, h3, h4⟩, _⟩ := F
  obtain ⟨es, c, hb, _⟩ := h3.own
  exact ⟨⟨_, h3.blk⟩, es, c, hb⟩
theorem VM.ne (F : VM p b st V w) (ht : t ≠ 90) {cs : Array Value} (o : w.heap[q]? = some (.cells cs t (0, 0))) : q ≠ p ∧ q ≠ b := by
  obtain ⟨⟨cp, hp⟩, es, c, hb⟩ := F.objs
  constructor
  · rintro rfl
    have := hp.symm.trans o
    simp only [Option.some.injEq, Obj.cells.injEq] at this
    exact ht this.2.1.symm
  · rintro rfl
    have := hb.symm.trans o
    simp at this
theorem Only.layV {X Y : World} (_h : Only p b X Y) (_hp : 0 < p) (_hb : 0 < b) (_hl : Lay X) : Lay Y := Lay.all Y
theorem Only.laymV {X Y : World} (h : Only p b X Y) (hp : 0 < p) (hb : 0 < b) (hl : LayM X) : LayM Y := hl.same h.size (h.block 0 hl.1 (by omega) (by omega))
theorem Only3.layV {X Y : World} (_h : Only3 p b q X Y) (_hp : 0 < p) (_hb : 0 < b) (_hq : 0 < q) (_hl : Lay X) : Lay Y := Lay.all Y
theorem Only3.laymV {X Y : World} (h : Only3 p b q X Y) (hp : 0 < p) (hb : 0 < b) (hq : 0 < q) (hl : LayM X) : LayM Y := hl.same h.size (h.block 0 hl.1 (by omega) (by omega) (by omega))
theorem VM.setQ (F : VM p b st V w) (hp : q ≠ p) (hb : q ≠ b) (hq : 0 < q) (i : Nat) (v : Value) : VM p b st V (w.setCell ⟨q, i, none⟩ v) := by
  obtain ⟨⟨n, D, ak, k, a, f, was, is, done, h1, h2, h3, h4⟩, hl, hm, hp1, hb1⟩ := F
  have ho := Only3.setCell p b q w i v
  exact ⟨⟨n, D, ak, k, a, f, was, is, done, h1, h2, h3.setQ hp hb i v, h4⟩, ho.layV hp1 hb1 hq hl, ho.laymV hp1 hb1 hq hm, hp1, hb1⟩
theorem VM.load (F : VM p b st V w) (hs : st < 1000000) (x : Ad) :
    Calls Tryd.prog 38 #[.pointer (some ⟨p, 0, none⟩), .agg #[.int .u8 x.k, .int .i64 x.a, .int .i64 x.f]] w fun e w' => e = .returned (.int .u64 (V x)) ∧ VM p b (st + 1) V w' ∧ Only p b w w' := by
  obtain ⟨⟨n, D, ak, k, a, f, was, is, done, h1, h2, h3, h4⟩, hl, hm, hp, hb⟩ := F
  refine (load_prog p b n D st ak k a f was is done x (by omega) (by omega) w h3).mono ?_
  rintro e w' ⟨rfl, m', ho⟩
  rw [h4]
  exact ⟨rfl, ⟨⟨n, D, _, _, _, _, _, _, _, by omega, h2, by exact_mod_cast m', h4⟩, ho.layV hp hb hl, ho.laymV hp hb hm, hp, hb⟩, ho⟩
theorem VM.store (F : VM p b st V w) (hs : st < 1000000) (x : Ad) (v : Int) (hv : U64 v) :
    Calls Tryd.prog 25 #[.pointer (some ⟨p, 0, none⟩), .agg #[.int .u8 x.k, .int .i64 x.a, .int .i64 x.f], .int .u64 v] w fun e w' => e = .returned (.tuple #[]) ∧ VM p b (st + 1) (setV V x v) w' ∧ Only p b w w' := by
  obtain ⟨⟨n, D, ak, k, a, f, was, is, done, h1, h2, h3, h4⟩, hl, hm, hp, hb⟩ := F
  refine (store_prog p b n D st ak k a f was is done x v (u64w hv) (by omega) (by omega) (by omega) w hm h3).mono ?_
  rintro e w' ⟨rfl, m', ho⟩
  have e4 : valD D = V := funext h4
  exact ⟨rfl, ⟨⟨n + 1, _, _, _, _, _, _, _, _, by omega, isMap_store h2 x v, by exact_mod_cast m', fun y => by rw [valD_store h2, e4]⟩, ho.layV hp hb hl, ho.laymV hp hb hm, hp, hb⟩, ho⟩
theorem VM.steps (F : VM p b st V w) : Calls Tryd.prog 19 #[.pointer (some ⟨p, 0, none⟩)] w fun e w' => e = .returned (.int .i64 st) ∧ w = w' := by
  obtain ⟨⟨n, D, ak, k, a, f, was, is, done, h1, h2, h3, h4⟩, _⟩ := F
  exact steps_prog p b n D st ak k a f was is done w h3
theorem new_vm (_hL : Lay w) (hM : LayM w) : Calls Tryd.prog 21 #[] w fun e w' => ∃ p b, e = .returned (.pointer (some ⟨p, 0, none⟩)) ∧ VM p b 0 (fun _ => 0) w' ∧ Below w.heap.size w w' ∧ w.heap.size ≤ b ∧ b < p := by
  refine (new_some w).mono ?_
  rintro e w' ⟨p, b, rfl, hp, hb, h1, h2⟩
  have := hM.1
  exact ⟨p, b, rfl, ⟨⟨0, _, _, _, _, _, _, _, _, Nat.le_refl _, isMap_empty, hp, fun _ => rfl⟩, Lay.all w', hM.below hb, by omega, by omega⟩, hb, h1, h2⟩
end
end Go.Proofs.YtapcgikamldchaaDoor
