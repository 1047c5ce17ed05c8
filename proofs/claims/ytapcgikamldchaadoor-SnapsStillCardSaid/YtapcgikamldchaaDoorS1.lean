/-
  The library's sort over addresses, by the program's own order; condition: the row lies as it says, fewer than 2^62 of them.
  The keys of the program's map of words, collected and sorted: all of them, each once, by kind, place and field, in memory of its own; condition: the map's block reads as it says, at least one word and at most a million.
-/
import Derived.Test.YtapcgikamldchaaDoorS0
import Derived.Test.YtapcgikamldchaaDoorC1
import Derived.Test.YtapcgikamldchaaDoorQ1
import Derived.Shelf.SlSortCmp.WholeK
import Derived.Sort.OwnSorted
import Derived.Outline
namespace Go.Proofs.YtapcgikamldchaaDoor
open Go.Shelf Go.RowKit Go.Lib Go.Sort Go.Maps

def Ad.less (x y : Ad) : Bool := lessB x.k x.a x.f y.k y.a y.f
def Ad.cmp (x y : Ad) : Int := cmp3 x.k x.a x.f y.k y.a y.f
theorem Ad.lt_cmp (x y : Ad) : ltOf Ad.cmp x y = x.less y := by
  unfold ltOf Ad.cmp Ad.less cmp3 or3 lessB
  rcases Int.lt_trichotomy x.k y.k with h | h | h
  · rw [cmpI_lt h, if_pos (by decide), if_pos (by omega)]; simp [h]
  · rw [h, cmpI_eq]
    simp only [ne_eq, not_true_eq_false, if_false]
    rcases Int.lt_trichotomy x.a y.a with h2 | h2 | h2
    · rw [cmpI_lt h2, if_pos (by decide), if_pos (by omega)]; simp [h2]
    · rw [h2, cmpI_eq]
      simp only [not_true_eq_false, if_false]
      rcases Int.lt_trichotomy x.f y.f with h3 | h3 | h3
      · rw [cmpI_lt h3]; simp [h3]
      · rw [h3, cmpI_eq]; simp
      · rw [cmpI_gt h3]; simp; omega
    · rw [cmpI_gt h2, if_pos (by decide), if_pos (by omega)]; simp; omega
  · rw [cmpI_gt h, if_pos (by decide), if_pos (by omega)]; simp; omega
theorem Ad.less_iff (x y : Ad) : x.less y = true ↔ (x.k < y.k ∨ (x.k = y.k ∧ (x.a < y.a ∨ (x.a = y.a ∧ x.f < y.f)))) := by
  unfold Ad.less lessB
  by_cases h : x.k = y.k
  · by_cases h2 : x.a = y.a
    · simp [h, h2]
    · simp [h, h2]
  · simp [h]
theorem Ad.less_total {x y : Ad} (h : x ≠ y) (hn : y.less x = false) : x.less y = true := by
  rw [Ad.less_iff]
  have h1 : ¬ (y.less x = true) := by rw [hn]; simp
  rw [Ad.less_iff] at h1
  have h2 : ¬ (x.k = y.k ∧ x.a = y.a ∧ x.f = y.f) := fun e => h (Ad.ext e)
  omega
theorem Ad.swo : SWO (ltOf Ad.cmp) where
  irrefl x := by
    rw [Ad.lt_cmp]
    have : ¬ (x.less x = true) := by rw [Ad.less_iff]; omega
    simpa using this
  trans x y z h1 h2 := by
    rw [Ad.lt_cmp, Ad.less_iff] at *
    omega
  ntrans x y z h1 h2 := by
    rw [Ad.lt_cmp] at *
    have a1 : ¬ (x.less y = true) := by rw [h1]; simp
    have a2 : ¬ (y.less z = true) := by rw [h2]; simp
    have a3 : ¬ (x.less z = true) := by
      rw [Ad.less_iff] at *
      omega
    simpa using a3

theorem cmpLays (blk off size : Nat) (w : World) : CmpLays Tryd.prog 44 #[] Ad.cells 3 Ad.cmp blk off size w :=
  fun _ _ _ _ x y => compare_any x.k x.a x.f y.k y.a y.f _

/-- What the sort leaves. -/
def SortPost (blk off : Nat) (d : Array Ad) (w : World) (e : Ending) (w' : World) : Prop :=
  e = .returned (.tuple #[]) ∧ ∃ d' n os, PermIn 0 d.size d d' ∧ SortedIn (ltOf Ad.cmp) 0 d.size d' ∧ w' = sortWorldK Ad.cells 3 w blk off n d' os
theorem sort_any (blk off cap : Nat) (d : Array Ad) (w : World) (hH : HoldsK Ad.cells 3 w blk off d) (hblk : blk < w.heap.size) (hsz : d.size < 4611686018427387904) :
    Calls Tryd.prog 48 #[.slice (some ⟨blk, off, none⟩) d.size cap, .func (.func 44) #[] #[]] w (SortPost blk off d w) :=
  AnyQ.slices_SortFunc sortA 3 Tryd.isAgg42 Tryd.sizeOf42 Ad.cells (fun _ => rfl) (fun x => x.one) Ad.cmp Ad.swo 44 #[] blk off cap d w (enters_of Tryd.func44 (by kernel_rfl) rfl) (cmpLays blk off d.size w) hH hblk hsz
end Go.Proofs.YtapcgikamldchaaDoor
namespace Go.Proofs.YtapcgikamldchaaDoor
open Go.Shelf Go.RowKit Go.Lib Go.Sort Go.Maps

theorem flatA_at (l : List Ad) : ∀ i j : Nat, i < l.length → j < 3 → (flatA l)[i * 3 + j]? = ((l.getD i default).cells)[j]? := by
  induction l with
  | nil => intro i j hi; simp at hi
  | cons x r ih =>
    intro i j hi hj
    have hc : x.cells.length = 3 := rfl
    show (x.cells ++ flatA r)[i * 3 + j]? = _
    cases i with
    | zero => rw [List.getElem?_append_left (by omega)]; simp
    | succ i =>
      rw [List.getElem?_append_right (by omega), hc, show (i + 1) * 3 + j - 3 = i * 3 + j by omega, ih i j (by simpa using hi) hj]
      simp
theorem flatK_flatA (l : List Ad) : flatK Ad.cells 3 l.toArray = (flatA l).toArray := by
  refine ext_get! (by simp [flatA_len]) fun t ht => ?_
  have ht' : t < l.length * 3 := by simpa using ht
  rw [get_flatK _ _ _ t (by simpa using ht')]
  have h := flatA_at l (t / 3) (t % 3) (by omega) (by omega)
  rw [show t / 3 * 3 + t % 3 = t by omega] at h
  have h1 : l.toArray[t / 3]! = l.getD (t / 3) default := by simp
  rw [h1]
  have hl : (flatA l).length = l.length * 3 := flatA_len l
  have hg : (flatA l)[t]? = some ((flatA l)[t]'(by omega)) := List.getElem?_eq_getElem (by omega)
  rw [hg] at h
  have e2 : (flatA l).toArray[t]! = (flatA l)[t]'(by omega) := by simp [show t < (flatA l).length by omega]
  rw [e2]
  have := h.symm
  rw [List.getElem!_eq_getElem?_getD, this]
  rfl

theorem holds_of_blockV {w : World} {g : Nat} {cur : Array Value} {e : TypeId} {xs : List Value} (hb : w.heap[g]? = some (.cells cur e (0, 0))) (ht : cur.toList.take xs.length = xs) : Holds id w g 0 xs.toArray := by
  intro j hj
  have hj' : j < xs.length := by simpa using hj
  refine ⟨?_, by simp [World.frozen?, hb]⟩
  have h1 : (cur.toList.take xs.length)[j]? = xs[j]? := by rw [ht]
  rw [List.getElem?_take_of_lt hj'] at h1
  simp only [World.cell?, hb, Nat.zero_add]
  simp only [Option.isSome_none, Bool.false_eq_true, if_false]
  rw [← Array.getElem?_toList, h1]
  simp [hj']
theorem heap_sortedV {w : World} {g n : Nat} {os : Array Obj} {cur : Array Value} {e : TypeId} {fr : Nat × Nat} (d : Array Value) (hb : w.heap[g]? = some (.cells cur e fr)) :
    (grow (putRow id (Sort.ahead w n) g 0 d) os).heap[g]? = some (.cells (putCells id 0 d cur) e fr) := by
  have hg : g < w.heap.size := (Array.getElem?_eq_some_iff.1 hb).1
  rw [heap_grow_old _ _ (by simpa using hg)]
  simp [putRow, mapBlock, Sort.ahead, Array.getElem?_modify, hb, onCells]
theorem grownBy_sortedV {w : World} {g n : Nat} {os : Array Obj} (d : Array Value) : w.grownBy (grow (putRow id (Sort.ahead w n) g 0 d) os) (some g) := by
  refine ⟨rfl, rfl, rfl, by simp, fun k hk hne => ?_⟩
  rw [heap_grow_old _ _ (by simpa using hk)]
  have : g ≠ k := fun e => hne (by rw [e])
  simp [putRow, mapBlock, Sort.ahead, Array.getElem?_modify, this]
theorem take_putCellsV (cur : Array Value) (ts : List Value) (h : ts.length ≤ cur.size) : (putCells id 0 ts.toArray cur).toList.take ts.length = ts := by
  apply List.ext_getElem?
  intro j
  by_cases hj : j < ts.length
  · rw [List.getElem?_take_of_lt hj, Array.getElem?_toList]
    simp [putCells, hj, show j < cur.size by omega]
  · rw [List.getElem?_take_eq_none (by omega), List.getElem?_eq_none (by omega)]
theorem ownsRow_sortedV {w : World} {base g cap n k : Nat} {e : TypeId} {os : Array Obj} {cur : Array Value} {ts : List Value} (hl : ts.length = k * 3) (hbase : base ≤ g) (hb : w.heap[g]? = some (.cells cur e (0, 0)))
    (h1 : k ≤ cap) (h2 : cap ≤ maxLen) (h3 : cur.size = cap * 3) :
    (grow (putRow id (Sort.ahead w n) g 0 ts.toArray) os).ownsRow base e 3 (.slice (some ⟨g, 0, none⟩) k cap) k ts :=
  ⟨hl, .inr ⟨g, cap, _, rfl, hbase, heap_sortedV _ hb, h1, h2, by simp [putCells, h3], by rw [← hl]; exact take_putCellsV cur ts (by omega)⟩⟩

theorem appendSeq_any {H : Type} (Bm b nn : Nat) (D0 : DataW H) (hsz : Maps.size D0 ≤ 1000000) (w : World) (hBm : Bm < w.heap.size)
    (hm : w.cell? ⟨Bm, 0, none⟩ = some (.map (some b))) (hown : w.ownsMap Tryd.prog 42 (plainElem Tryd.prog 34) b nn D0) :
    Calls Tryd.prog 56 #[.slice none 0 0, .func (.func 49) #[] #[.pointer (some ⟨Bm, 0, none⟩)]] w (SeqPost D0 w) :=
  callsIn_wide.1 (appendSeq_in Fence.wide 3 trivial trivial rfl (Nat.le_refl _) Bm b nn D0 hsz w hBm hm hown)

theorem collect_any {H : Type} (Bm b nn : Nat) (D0 : DataW H) (hsz : Maps.size D0 ≤ 1000000) (w : World) (hBm : Bm < w.heap.size)
    (hm : w.cell? ⟨Bm, 0, none⟩ = some (.map (some b))) (hown : w.ownsMap Tryd.prog 42 (plainElem Tryd.prog 34) b nn D0) :
    Calls Tryd.prog 47 #[.func (.func 49) #[] #[.pointer (some ⟨Bm, 0, none⟩)]] w (SeqPost D0 w) := by
  have hcon := appendSeq_any Bm b nn D0 hsz w hBm hm hown
  clear hown hm
  go_enter Tryd.func47, Tryd.ntmps47
  go_wp2_with (go_at_call 56; refine hcon.mono ?_; rintro e w' ⟨v, ss, rfl, hS, hrow, hnil, hB⟩)
  go_ret
  exact ⟨v, ss, rfl, hS, hrow, hnil, hB⟩

/-- What SortedFunc hands back. -/
def SortedPost {H : Type} (D0 : DataW H) (w : World) (e : Ending) (W' : World) : Prop :=
  ∃ (g cap : Nat) (ts : List Ad), e = .returned (.slice (some ⟨g, 0, none⟩) ts.length cap) ∧ (ts.Pairwise (fun x y => x.less y = true) ∧ (∀ x : Ad, x ∈ ts ↔ has D0 x.lit = true) ∧ ts.length = Maps.size D0) ∧
    W'.ownsRow w.heap.size 42 3 (.slice (some ⟨g, 0, none⟩) ts.length cap) ts.length (flatA ts) ∧ Below w.heap.size w W'

theorem sorted_list {ss ts : List Ad} (hn : ss.Nodup) (hp : ts.Perm ss) (hs : SortedIn (ltOf Ad.cmp) 0 ts.length ts.toArray) : ts.Pairwise (fun x y => x.less y = true) := by
  have hnt : ts.Nodup := hp.nodup_iff.2 hn
  rw [List.pairwise_iff_getElem]
  intro i j hi hj hij
  have h := hs i j (Nat.zero_le _) hij hj
  have e1 : ts.toArray[i]! = ts[i] := by simp [hi]
  have e2 : ts.toArray[j]! = ts[j] := by simp [hj]
  rw [e1, e2, Ad.lt_cmp] at h
  refine Ad.less_total (fun e => ?_) h
  exact List.pairwise_iff_getElem.1 hnt i j hi hj hij e
theorem perm_of_permIn {d d' : Array Ad} (h : PermIn 0 d.size d d') : d'.toList.Perm d.toList := by
  obtain ⟨h1, _, h3⟩ := h
  have e1 : d.extract 0 d.size = d := by simp
  have e2 : d'.extract 0 d.size = d' := by rw [← h1]; simp
  rwa [e1, e2] at h3

set_option maxHeartbeats 1000000 in
theorem sortedFunc_any {H : Type} (Bm b nn : Nat) (D0 : DataW H) (hsz : Maps.size D0 ≤ 1000000) (hpos : 0 < Maps.size D0) (w : World) (hBm : Bm < w.heap.size)
    (hm : w.cell? ⟨Bm, 0, none⟩ = some (.map (some b))) (hown : w.ownsMap Tryd.prog 42 (plainElem Tryd.prog 34) b nn D0) :
    Calls Tryd.prog 42 #[.func (.func 49) #[] #[.pointer (some ⟨Bm, 0, none⟩)], .func (.func 44) #[] #[]] w (SortedPost D0 w) := by
  have hcon := collect_any Bm b nn D0 hsz w hBm hm hown
  clear hown hm
  go_enter Tryd.func42, Tryd.ntmps42
  go_wp2_with (go_at_call 47; refine hcon.mono ?_; rintro e w1 ⟨v, ss, rfl, ⟨hn, hmem, hlen⟩, hrow, hnil, hB⟩)
  rcases hrow.2 with ⟨hv, h0⟩ | ⟨g, cap, cur, rfl, hbase, hb, k1, k2, k3, k4⟩
  · omega
  · have HH : HoldsK Ad.cells 3 w1 g 0 ss.toArray := by
      unfold HoldsK
      rw [flatK_flatA]
      exact holds_of_blockV hb (by rw [flatA_len]; exact k4)
    have hgl : g < w1.heap.size := (Array.getElem?_eq_some_iff.1 hb).1
    have hsrt := sort_any g 0 cap ss.toArray w1 HH hgl (by simp; omega)
    simp only [List.size_toArray] at hsrt
    have HB := Lib.hid hB
    have HN := Lib.hid hn
    have HM := Lib.hid hmem
    have HL := Lib.hid hlen
    have HG := Lib.hid hb
    have HK := Lib.hid k3
    clear hB hn hmem hlen hb k3 k4 hrow hnil HH hcon
    go_wp2_with (go_at_call 48; refine hsrt.mono ?_; rintro e w2 ⟨rfl, d', n, os, hp, hs, rfl⟩)
    go_ret
    have hpl := perm_of_permIn hp
    have hle : d'.toList.length = ss.length := by have := hpl.length_eq; simpa using this
    have hpl' : d'.toList.Perm ss := by simpa using hpl
    have hdt : d'.toList.toArray = d' := Array.toArray_toList
    have hss : SortedIn (ltOf Ad.cmp) 0 d'.toList.length d'.toList.toArray := by
      rw [hdt, hle]
      exact hs
    have hfk : flatK Ad.cells 3 d' = (flatA d'.toList).toArray := by rw [← flatK_flatA, hdt]
    refine ⟨g, cap, d'.toList, by rw [hle]; rfl, ⟨sorted_list HN.out hpl' hss, fun x => ?_, by rw [hle, HL.out]⟩, ?_, ?_⟩
    · rw [← HM.out x]
      exact hpl'.mem_iff
    · show (grow (putRow id (Sort.ahead w1 n) g 0 (flatK Ad.cells 3 d')) os).ownsRow _ _ _ _ _ _
      rw [hfk]
      exact ownsRow_sortedV (flatA_len _) hbase HG.out (by rw [hle]; exact k1) k2 HK.out
    · exact HB.out.grown (grownBy_sortedV _) HB.out.size (fun j hj => by cases hj; exact hbase)
end Go.Proofs.YtapcgikamldchaaDoor
