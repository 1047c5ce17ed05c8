/-
  Threads as they lie: the slice of them, each one's row of slots, its operation; what stays when one of them goes on; condition: all lies as it says.
-/
import Derived.Test.YtipgidkpjilhoaaDoorH5
import Derived.Test.YtipgidkpjilhoaaDoorH6
import Derived.Test.YtipgidkpjilhoaaDoorF5
namespace Go.Proofs.YtipgidkpjilhoaaDoor
open Go.RowKit Go.Maps

def popP : TO → Nat → Value
  | .pop _, q => .pointer (some ⟨q, 0, none⟩)
  | _, _ => .pointer none
def pushP : TO → Nat → Value
  | .push _, q => .pointer (some ⟨q, 0, none⟩)
  | _, _ => .pointer none
def OpR (w : World) (B q : Nat) : TO → Prop
  | .no => True
  | .pop o => OpAt 62 q o.nx o.h o.to w ∧ B ≤ q
  | .push o => OpAt 63 q o.nx o.h o.to w ∧ B ≤ q
def updN {α : Type} (f : Nat → α) (k : Nat) (v : α) : Nat → α := fun j => if j = k then v else f j
theorem updN_same {α : Type} (f : Nat → α) (k : Nat) (v : α) : updN f k v k = v := by simp [updN]
theorem updN_ne {α : Type} (f : Nat → α) {j k : Nat} (v : α) (h : j ≠ k) : updN f k v j = f j := by simp [updN, h]

theorem OpR.same {w w' : World} {B q : Nat} {o : TO} (h : OpR w B q o) (hb : q < w.heap.size → w'.heap[q]? = w.heap[q]?) : OpR w' B q o := by
  cases o with
  | no => trivial
  | pop o => exact ⟨h.1.same (hb h.1.lt), h.2⟩
  | push o => exact ⟨h.1.same (hb h.1.lt), h.2⟩

/-- All threads. -/
structure TW (B p b G : Nat) (hv : Nat → Value) (qs : Nat → Nat) (th : Nat → Th) (st : Nat) (M : MS) (w : World) : Prop where
  fm : FM p b st M w
  pB : B ≤ p
  bB : B ≤ b
  GB : B ≤ G
  blk : ∃ cur, w.heap[G]? = some (.cells cur 73 (0, 0)) ∧ cur.size = 18 ∧ ∀ k, k < 6 → cur[3 * k]? = some (hv k) ∧ cur[3 * k + 1]? = some (popP (th k).op (qs k)) ∧ cur[3 * k + 2]? = some (pushP (th k).op (qs k))
  row : ∀ k, k < 6 → HRow w B (hv k) (th k).held
  op : ∀ k, k < 6 → OpR w B (qs k) (th k).op
  sepr : ∀ j k, j < 6 → k < 6 → j ≠ k → ∀ g, hblk (hv j) = some g → hblk (hv k) ≠ some g
  sepo : ∀ j k, j < 6 → k < 6 → j ≠ k → (th j).op ≠ .no → (th k).op ≠ .no → qs j ≠ qs k
/-- All but thread k, whose words are vh, vp, vq. -/
structure TL (B p b G k : Nat) (hv : Nat → Value) (qs : Nat → Nat) (th : Nat → Th) (st : Nat) (M : MS) (vh vp vq : Value) (w : World) : Prop where
  fm : FM p b st M w
  pB : B ≤ p
  bB : B ≤ b
  GB : B ≤ G
  blk : ∃ cur, w.heap[G]? = some (.cells cur 73 (0, 0)) ∧ cur.size = 18 ∧ (∀ j, j < 6 → j ≠ k → cur[3 * j]? = some (hv j) ∧ cur[3 * j + 1]? = some (popP (th j).op (qs j)) ∧ cur[3 * j + 2]? = some (pushP (th j).op (qs j))) ∧ cur[3 * k]? = some vh ∧ cur[3 * k + 1]? = some vp ∧ cur[3 * k + 2]? = some vq
  row : ∀ j, j < 6 → j ≠ k → HRow w B (hv j) (th j).held
  op : ∀ j, j < 6 → j ≠ k → OpR w B (qs j) (th j).op
  sepr : ∀ i j, i < 6 → j < 6 → i ≠ k → j ≠ k → i ≠ j → ∀ g, hblk (hv i) = some g → hblk (hv j) ≠ some g
  sepo : ∀ i j, i < 6 → j < 6 → i ≠ k → j ≠ k → i ≠ j → (th i).op ≠ .no → (th j).op ≠ .no → qs i ≠ qs j
/-- A row's block is no other thread's; an operation's neither. -/
def SepR (k : Nat) (hv : Nat → Value) (v : Value) : Prop := ∀ j, j < 6 → j ≠ k → ∀ g, hblk v = some g → hblk (hv j) ≠ some g
def SepO (k : Nat) (qs : Nat → Nat) (th : Nat → Th) (q : Nat) : Prop := ∀ j, j < 6 → j ≠ k → (th j).op ≠ .no → qs j ≠ q

section
variable {B p b G k st st' : Nat} {hv : Nat → Value} {qs : Nat → Nat} {th : Nat → Th} {M M' : MS} {vh vp vq : Value} {w w' : World}
theorem TW.tl (W : TW B p b G hv qs th st M w) (hk : k < 6) : TL B p b G k hv qs th st M (hv k) (popP (th k).op (qs k)) (pushP (th k).op (qs k)) w := by
  obtain ⟨cur, h1, h2, h3⟩ := W.blk
  exact ⟨W.fm, W.pB, W.bB, W.GB, ⟨cur, h1, h2, fun j hj _ => h3 j hj, h3 k hk⟩, fun j hj _ => W.row j hj, fun j hj _ => W.op j hj, fun i j hi hj _ _ => W.sepr i j hi hj, fun i j hi hj _ _ => W.sepo i j hi hj⟩
theorem TW.sr (W : TW B p b G hv qs th st M w) (hk : k < 6) : SepR k hv (hv k) := fun j hj hjk g h => W.sepr k j hk hj (Ne.symm hjk) g h
theorem TW.so (W : TW B p b G hv qs th st M w) (hk : k < 6) (h : (th k).op ≠ .no) : SepO k qs th (qs k) := fun j hj hjk h' => W.sepo j k hj hk hjk h' h
theorem TL.tw (L : TL B p b G k hv qs th st M vh vp vq w) (hk : k < 6) {t : Th} {q : Nat} (hr : HRow w B vh t.held) (ho : OpR w B q t.op) (ep : vp = popP t.op q) (eq : vq = pushP t.op q) (sr : SepR k hv vh) (so : t.op ≠ .no → SepO k qs th q) :
    TW B p b G (updN hv k vh) (updN qs k q) (updT th k t) st M w := by
  obtain ⟨cur, h1, h2, h3, h4, h5, h6⟩ := L.blk
  refine ⟨L.fm, L.pB, L.bB, L.GB, ⟨cur, h1, h2, fun j hj => ?_⟩, fun j hj => ?_, fun j hj => ?_, fun i j hi hj hij g hg => ?_, fun i j hi hj hij h7 h8 => ?_⟩
  · by_cases hjk : j = k
    · subst hjk; rw [updN_same, updN_same, updT_same, ← ep, ← eq]; exact ⟨h4, h5, h6⟩
    · rw [updN_ne _ _ hjk, updN_ne _ _ hjk, updT_ne _ _ hjk]; exact h3 j hj hjk
  · by_cases hjk : j = k
    · subst hjk; rw [updN_same, updT_same]; exact hr
    · rw [updN_ne _ _ hjk, updT_ne _ _ hjk]; exact L.row j hj hjk
  · by_cases hjk : j = k
    · subst hjk; rw [updN_same, updT_same]; exact ho
    · rw [updN_ne _ _ hjk, updT_ne _ _ hjk]; exact L.op j hj hjk
  · by_cases hik : i = k
    · subst hik
      rw [updN_same] at hg
      rw [updN_ne _ _ (Ne.symm hij)]
      exact sr j hj (Ne.symm hij) g hg
    · rw [updN_ne _ _ hik] at hg
      by_cases hjk : j = k
      · subst hjk
        rw [updN_same]
        exact fun h => sr i hi hik g h hg
      · rw [updN_ne _ _ hjk]
        exact L.sepr i j hi hj hik hjk hij g hg
  · by_cases hik : i = k
    · subst hik
      rw [updT_same] at h7
      rw [updT_ne _ _ (Ne.symm hij)] at h8
      rw [updN_same, updN_ne _ _ (Ne.symm hij)]
      exact (so h7 j hj (Ne.symm hij) h8).symm
    · rw [updT_ne _ _ hik] at h7
      rw [updN_ne _ _ hik]
      by_cases hjk : j = k
      · subst hjk
        rw [updT_same] at h8
        rw [updN_same]
        exact so h8 i hi hik h7
      · rw [updT_ne _ _ hjk] at h8
        rw [updN_ne _ _ hjk]
        exact L.sepo i j hi hj hik hjk hij h7 h8

/-- Blocks of different kinds. -/
theorem TL.G_ne (L : TL B p b G k hv qs th st M vh vp vq w) : G ≠ p ∧ G ≠ b := by
  obtain ⟨cur, h1, _⟩ := L.blk
  obtain ⟨⟨n, D, ak, kk, a, f, was, is, done, _, _, h3, _⟩, _⟩ := L.fm
  constructor
  · rintro rfl
    have := h3.blk.symm.trans h1
    simp at this
  · rintro rfl
    obtain ⟨_, _, hb, _⟩ := h3.own
    have := hb.symm.trans h1
    simp at this
theorem HRow.kind {v : Value} {xs : List Int} (h : HRow w B v xs) {g : Nat} (hg : hblk v = some g) {cs : Array Value} {t : TypeId} {fr : Nat × Nat} {x : Nat} (hx : w.heap[x]? = some (.cells cs t fr)) (ht : t ≠ 3) : g ≠ x := by
  rintro rfl
  obtain ⟨_, _, cur, hc⟩ := h.lt hg
  have := hc.symm.trans hx
  simp only [Option.some.injEq, Obj.cells.injEq] at this
  exact ht this.2.1.symm
theorem HRow.kindM {v : Value} {xs : List Int} (h : HRow w B v xs) {g : Nat} (hg : hblk v = some g) (F : FM p b st M w) : g ≠ p ∧ g ≠ b := by
  obtain ⟨⟨n, D, ak, kk, a, f, was, is, done, _, _, h3, _⟩, _⟩ := F
  refine ⟨h.kind hg h3.blk (by decide), ?_⟩
  rintro rfl
  obtain ⟨_, _, cur, hc⟩ := h.lt hg
  obtain ⟨_, _, hb, _⟩ := h3.own
  have := hb.symm.trans hc
  simp at this
theorem OpR.kind {q : Nat} {o : TO} (h : OpR w B q o) (ho : o ≠ .no) {cs : Array Value} {t : TypeId} {fr : Nat × Nat} {x : Nat} (hx : w.heap[x]? = some (.cells cs t fr)) (ht : t ≠ 62 ∧ t ≠ 63) : q ≠ x := by
  rintro rfl
  cases o with
  | no => exact ho rfl
  | pop o =>
    have := Eq.trans (Eq.symm h.1) hx
    simp only [Option.some.injEq, Obj.cells.injEq] at this
    exact ht.1 this.2.1.symm
  | push o =>
    have := Eq.trans (Eq.symm h.1) hx
    simp only [Option.some.injEq, Obj.cells.injEq] at this
    exact ht.2 this.2.1.symm
theorem OpR.kindM {q : Nat} {o : TO} (h : OpR w B q o) (ho : o ≠ .no) (F : FM p b st M w) : q ≠ p ∧ q ≠ b := by
  cases o with
  | no => exact absurd rfl ho
  | pop o => exact F.ne (by decide) h.1
  | push o => exact F.ne (by decide) h.1

theorem FM.keep (F : FM p b st M w) (hs : w.heap.size ≤ w'.heap.size) (h0 : w'.heap[0]? = w.heap[0]?) (h1 : w'.heap[1]? = w.heap[1]?) (hp : w'.heap[p]? = w.heap[p]?) (hb : w'.heap[b]? = w.heap[b]?) : FM p b st M w' := by
  obtain ⟨⟨n, D, ak, kk, a, f, was, is, done, a1, a2, a3, a4⟩, hl, hm, hp1, hb1⟩ := F
  exact ⟨⟨n, D, ak, kk, a, f, was, is, done, a1, a2, a3.keep3 hp hb, a4⟩, hl.same3 hs h0, hm.same hs h1, hp1, hb1⟩
/-- What turns thread k's words, or makes memory, alone. -/
theorem TL.far (L : TL B p b G k hv qs th st M vh vp vq w) (hB : 1 < B) (hs : w.heap.size ≤ w'.heap.size) (x : Nat) (hx : B ≤ x) (hb : ∀ j, j < w.heap.size → j ≠ x → w'.heap[j]? = w.heap[j]?) (xG : x ≠ G) (xp : x ≠ p) (xb : x ≠ b)
    (xr : ∀ j, j < 6 → j ≠ k → hblk (hv j) ≠ some x) (xo : ∀ j, j < 6 → j ≠ k → (th j).op ≠ .no → qs j ≠ x) : TL B p b G k hv qs th st M vh vp vq w' := by
  obtain ⟨cur, h1, h2⟩ := L.blk
  have hlt := L.fm.lt
  have hGlt : G < w.heap.size := (Array.getElem?_eq_some_iff.1 h1).1
  have hpB := L.pB
  refine ⟨L.fm.keep hs (hb 0 (by omega) (by omega)) (hb 1 (by omega) (by omega)) (hb p hlt.1 (Ne.symm xp)) (hb b hlt.2 (Ne.symm xb)), L.pB, L.bB, L.GB, ⟨cur, (hb G hGlt (Ne.symm xG)).trans h1, h2⟩, fun j hj hjk => ?_, fun j hj hjk => ?_, L.sepr, L.sepo⟩
  · exact (L.row j hj hjk).same fun g hg => hb g ((L.row j hj hjk).lt hg).2.1 (fun e => xr j hj hjk (by rw [hg, e]))
  · by_cases hn : (th j).op = .no
    · rw [hn]; trivial
    · exact (L.op j hj hjk).same fun hq => hb _ hq (xo j hj hjk hn)
theorem TL.below (L : TL B p b G k hv qs th st M vh vp vq w) (hB : 1 < B) (h : Below w.heap.size w w') : TL B p b G k hv qs th st M vh vp vq w' := by
  have hp := L.fm.lt.1
  have hpB := L.pB
  refine L.far hB h.size w.heap.size (by omega) (fun j hj _ => h.block j hj) ?_ (by omega) (by have := L.fm.lt.2; omega) (fun j hj hjk e => ?_) (fun j hj hjk hn e => ?_)
  · rintro e
    obtain ⟨cur, h1, h2⟩ := L.blk
    have := (Array.getElem?_eq_some_iff.1 h1).1
    omega
  · have := ((L.row j hj hjk).lt e).2.1
    omega
  · have h := L.op j hj hjk
    cases ho : (th j).op with
    | no => exact hn ho
    | pop o => rw [ho] at h; have := h.1.lt; omega
    | push o => rw [ho] at h; have := h.1.lt; omega
theorem mod_set {w : World} {G i : Nat} {cur : Array Value} (h1 : w.heap[G]? = some (.cells cur 73 (0, 0))) (v : Value) : (w.setCell ⟨G, i, none⟩ v).heap[G]? = some (.cells (cur.setIfInBounds i v) 73 (0, 0)) := setCell_blk h1 i v
/-- Thread k's word is turned. -/
theorem TL.set (L : TL B p b G k hv qs th st M vh vp vq w) (hB : 1 < B) (hk : k < 6) (i : Nat) (hi : i < 3) (v : Value) {a : Addr} (ha : a = ⟨G, 3 * k + i, none⟩) :
    TL B p b G k hv qs th st M (if i = 0 then v else vh) (if i = 1 then v else vp) (if i = 2 then v else vq) (w.setCell a v) := by
  subst ha
  obtain ⟨cur, h1, h2, h3, h4, h5, h6⟩ := L.blk
  have hlt := L.fm.lt
  have hGlt : G < w.heap.size := (Array.getElem?_eq_some_iff.1 h1).1
  have hGB := L.GB
  obtain ⟨g1, g2⟩ := L.G_ne
  have hb : ∀ j, j ≠ G → (w.setCell ⟨G, 3 * k + i, none⟩ v).heap[j]? = w.heap[j]? := fun j hj => Below.heap_setCell w ⟨G, 3 * k + i, none⟩ v j hj
  refine ⟨L.fm.keep (by simp [World.setCell]) (hb 0 (by omega)) (hb 1 (by omega)) (hb p (Ne.symm g1)) (hb b (Ne.symm g2)), L.pB, L.bB, L.GB, ⟨_, mod_set h1 v, by simpa using h2, fun j hj hjk => ?_, ?_, ?_, ?_⟩, fun j hj hjk => ?_, fun j hj hjk => ?_, L.sepr, L.sepo⟩
  · obtain ⟨a1, a2, a3⟩ := h3 j hj hjk
    simp only [Array.getElem?_setIfInBounds]
    rw [if_neg (by omega), if_neg (by omega), if_neg (by omega)]
    exact ⟨a1, a2, a3⟩
  · rw [Array.getElem?_setIfInBounds]
    by_cases e : i = 0
    · subst e; simp [show 3 * k < cur.size by omega]
    · rw [if_neg (by omega), if_neg e]; exact h4
  · rw [Array.getElem?_setIfInBounds]
    by_cases e : i = 1
    · subst e; simp [show 3 * k + 1 < cur.size by omega]
    · rw [if_neg (by omega), if_neg e]; exact h5
  · rw [Array.getElem?_setIfInBounds]
    by_cases e : i = 2
    · subst e; simp [show 3 * k + 2 < cur.size by omega]
    · rw [if_neg (by omega), if_neg e]; exact h6
  · exact (L.row j hj hjk).same fun g hg => hb g ((L.row j hj hjk).kind hg h1 (by decide))
  · by_cases hn : (th j).op = .no
    · rw [hn]; trivial
    · exact (L.op j hj hjk).same fun hq => hb _ ((L.op j hj hjk).kind hn h1 (by decide))
theorem TL.cells (L : TL B p b G k hv qs th st M vh vp vq w) : w.cell? ⟨G, 3 * k, none⟩ = some vh ∧ w.cell? ⟨G, 3 * k + 1, none⟩ = some vp ∧ w.cell? ⟨G, 3 * k + 2, none⟩ = some vq ∧ ∀ i, w.frozen? ⟨G, i, none⟩ = false := by
  obtain ⟨cur, h1, h2, h3, h4, h5, h6⟩ := L.blk
  exact ⟨(cell_of_row w G _ cur 73 (0, 0) h1).trans h4, (cell_of_row w G _ cur 73 (0, 0) h1).trans h5, (cell_of_row w G _ cur 73 (0, 0) h1).trans h6, fun i => by simp [World.frozen?, h1]⟩
/-- A step of thread k's operation. -/
theorem TL.step (L : TL B p b G k hv qs th st M vh vp vq w) (_ : 1 < B) {q : Nat} (hq : B ≤ q) {t : TypeId} {nx h to : Int} (o : OpAt t q nx h to w) (ht : t = 62 ∨ t = 63) (so : SepO k qs th q) (F : FM p b st' M' w') (h3 : Only3 p b q w w') :
    TL B p b G k hv qs th st' M' vh vp vq w' := by
  obtain ⟨cur, h1, h2⟩ := L.blk
  have hGlt : G < w.heap.size := (Array.getElem?_eq_some_iff.1 h1).1
  obtain ⟨g1, g2⟩ := L.G_ne
  have ht3 : t ≠ 3 := by rintro rfl; rcases ht with h | h <;> exact absurd h (by decide)
  have gq : G ≠ q := by
    rintro rfl
    have := Eq.trans (Eq.symm o) h1
    simp only [Option.some.injEq, Obj.cells.injEq] at this
    rcases ht with h | h <;> rw [h] at this <;> exact absurd this.2.1 (by decide)
  refine ⟨F, L.pB, L.bB, L.GB, ⟨cur, (h3.block G hGlt g1 g2 gq).trans h1, h2⟩, fun j hj hjk => ?_, fun j hj hjk => ?_, L.sepr, L.sepo⟩
  · exact (L.row j hj hjk).same fun g hg => h3.block g ((L.row j hj hjk).lt hg).2.1 ((L.row j hj hjk).kindM hg L.fm).1 ((L.row j hj hjk).kindM hg L.fm).2 ((L.row j hj hjk).kind hg o ht3)
  · by_cases hn : (th j).op = .no
    · rw [hn]; trivial
    · exact (L.op j hj hjk).same fun hlt => h3.block _ hlt ((L.op j hj hjk).kindM hn L.fm).1 ((L.op j hj hjk).kindM hn L.fm).2 (so j hj hjk hn)
theorem HRow.step {v : Value} {xs : List Int} (h : HRow w B v xs) (F : FM p b st M w) {q : Nat} {t : TypeId} {nx hh to : Int} (o : OpAt t q nx hh to w) (ht : t = 62 ∨ t = 63) (h3 : Only3 p b q w w') : HRow w' B v xs := by
  have ht3 : t ≠ 3 := by rintro rfl; rcases ht with h | h <;> exact absurd h (by decide)
  exact h.same fun g hg => h3.block g (h.lt hg).2.1 (h.kindM hg F).1 (h.kindM hg F).2 (h.kind hg o ht3)
theorem HRow.below {v : Value} {xs : List Int} (h : HRow w B v xs) (hb : Below w.heap.size w w') : HRow w' B v xs := h.same fun g hg => hb.block g (h.lt hg).2.1
theorem HRow.setG {v : Value} {xs : List Int} (h : HRow w B v xs) (L : TL B p b G k hv qs th st M vh vp vq w) {a : Addr} (ha : a.block = G) (u : Value) : HRow (w.setCell a u) B v xs := by
  obtain ⟨cur, h1, h2⟩ := L.blk
  exact h.same fun g hg => Below.heap_setCell w a u g (by rw [ha]; exact h.kind hg h1 (by decide))
theorem OpAt.setG {t : TypeId} {q : Nat} {nx hh to : Int} (o : OpAt t q nx hh to w) (L : TL B p b G k hv qs th st M vh vp vq w) (ht : t ≠ 73) {a : Addr} (ha : a.block = G) (u : Value) : OpAt t q nx hh to (w.setCell a u) := by
  obtain ⟨cur, h1, h2⟩ := L.blk
  refine o.same (Below.heap_setCell w a u q ?_)
  rw [ha]
  rintro rfl
  have := Eq.trans (Eq.symm o) h1
  simp only [Option.some.injEq, Obj.cells.injEq] at this
  exact ht this.2.1
/-- An append to thread k's row. -/
theorem TL.grown (L : TL B p b G k hv qs th st M vh vp vq w) (hB : 1 < B) {v : Value} {xs : List Int} (h : HRow w B v xs) (sr : SepR k hv v) (hg : w.grownBy w' (hblk v)) : TL B p b G k hv qs th st M vh vp vq w' := by
  cases hv' : hblk v with
  | none =>
    rw [hv'] at hg
    have := L.fm.lt
    refine L.below hB ⟨hg.os, hg.tape, hg.output, hg.size, fun j hj => hg.block j hj (by simp)⟩
  | some g =>
    rw [hv'] at hg
    obtain ⟨cur, h1, h2⟩ := L.blk
    obtain ⟨l1, l2, _⟩ := h.lt hv'
    refine L.far hB hg.size g l1 (fun j hj hne => hg.block j hj (by simpa using hne)) (h.kind hv' h1 (by decide)) (h.kindM hv' L.fm).1 (h.kindM hv' L.fm).2 (fun j hj hjk => sr j hj hjk g hv') (fun j hj hjk hn e => ?_)
    obtain ⟨_, _, c2, hc2⟩ := h.lt hv'
    exact (L.op j hj hjk).kind hn hc2 (by decide) e
end
end Go.Proofs.YtipgidkpjilhoaaDoor
