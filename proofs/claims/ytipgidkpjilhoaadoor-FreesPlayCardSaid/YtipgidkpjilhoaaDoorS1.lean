/-
  The library's sort over addresses, by the program's own order; condition: the row lies as it says, fewer than 2^62 of them.
-/
import Derived.Test.YtipgidkpjilhoaaDoorS0
import Derived.Test.YtipgidkpjilhoaaDoorC2
import Derived.Test.YtipgidkpjilhoaaDoorQ1
import Derived.Shelf.SlSortCmp.WholeK
import Derived.Sort.OwnSorted
namespace Go.Proofs.YtipgidkpjilhoaaDoor
open Go.Shelf Go.RowKit Go.Lib Go.Sort Go.Maps

def Ad.less (x y : Ad) : Bool := lessB x.k x.a x.f y.k y.a y.f
def Ad.cmp (x y : Ad) : Int := cmp3 x.k x.a x.f y.k y.a y.f
theorem Ad.lt_cmp (x y : Ad) : ltOf Ad.cmp x y = x.less y := by
  unfold ltOf Ad.cmp Ad.less cmp3 or3 lessB
  rcases Int.lt_trichotomy x.k y.k with h | h | h
  · rw [cmpI_lt h, if_pos (by decide), if_pos (by omega)]; simp [h]
  · rw [h, cmpI_eq]
    simp only [ne_eq, not_true_eq_false, if_false]
    rcases Int.lt_trichotomy x.a y.a with h2 | h2 | h2
    · rw [cmpI_lt h2, if_pos (by decide), if_pos (by omega)]; simp [h2]
    · rw [h2, cmpI_eq]
      simp only [not_true_eq_false, if_false]
      rcases Int.lt_trichotomy x.f y.f with h3 | h3 | h3
      · rw [cmpI_lt h3]; simp [h3]
      · rw [h3, cmpI_eq]; simp
      · rw [cmpI_gt h3]; simp; omega
    · rw [cmpI_gt h2, if_pos (by decide), if_pos (by omega)]; simp; omega
  · rw [cmpI_gt h, if_pos (by decide), if_pos (by omega)]; simp; omega
theorem Ad.less_iff (x y : Ad) : x.less y = true ↔ (x.k < y.k ∨ (x.k = y.k ∧ (x.a < y.a ∨ (x.a = y.a ∧ x.f < y.f)))) := by
  unfold Ad.less lessB
  by_cases h : x.k = y.k
  · by_cases h2 : x.a = y.a
    · simp [h, h2]
    · simp [h, h2]
  · simp [h]
theorem Ad.less_total {x y : Ad} (h : x ≠ y) (hn : y.less x = false) : x.less y = true := by
  rw [Ad.less_iff]
  have h1 : ¬ (y.less x = true) := by rw [hn]; simp
  rw [Ad.less_iff] at h1
  have h2 : ¬ (x.k = y.k ∧ x.a = y.a ∧ x.f = y.f) := fun e => h (Ad.ext e)
  omega
theorem Ad.swo : SWO (ltOf Ad.cmp) where
  irrefl x := by
    rw [Ad.lt_cmp]
    have : ¬ (x.less x = true) := by rw [Ad.less_iff]; omega
    simpa using this
  trans x y z h1 h2 := by
    rw [Ad.lt_cmp, Ad.less_iff] at *
    omega
  ntrans x y z h1 h2 := by
    rw [Ad.lt_cmp] at *
    have a1 : ¬ (x.less y = true) := by rw [h1]; simp
    have a2 : ¬ (y.less z = true) := by rw [h2]; simp
    have a3 : ¬ (x.less z = true) := by
      rw [Ad.less_iff] at *
      omega
    simpa using a3

theorem cmpLays (blk off size : Nat) (w : World) : CmpLays Tryd.prog 70 #[] Ad.cells 3 Ad.cmp blk off size w :=
  fun _ _ _ _ x y => compare_any x.k x.a x.f y.k y.a y.f _

/-- What the sort leaves. -/
def SortPost (blk off : Nat) (d : Array Ad) (w : World) (e : Ending) (w' : World) : Prop :=
  e = .returned (.tuple #[]) ∧ ∃ d' n os, PermIn 0 d.size d d' ∧ SortedIn (ltOf Ad.cmp) 0 d.size d' ∧ w' = sortWorldK Ad.cells 3 w blk off n d' os
theorem sort_any (blk off cap : Nat) (d : Array Ad) (w : World) (hH : HoldsK Ad.cells 3 w blk off d) (hblk : blk < w.heap.size) (hsz : d.size < 4611686018427387904) :
    Calls Tryd.prog 74 #[.slice (some ⟨blk, off, none⟩) d.size cap, .func (.func 70) #[] #[]] w (SortPost blk off d w) :=
  AnyQ.slices_SortFunc sortA 3 Tryd.isAgg33 Tryd.sizeOf33 Ad.cells (fun _ => rfl) (fun x => x.one) Ad.cmp Ad.swo 70 #[] blk off cap d w (enters_of Tryd.func70 (by kernel_rfl) rfl) (cmpLays blk off d.size w) hH hblk hsz
end Go.Proofs.YtipgidkpjilhoaaDoor
