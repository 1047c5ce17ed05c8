/-
  The eight actors as they lie: the slice of them, each one's operation; what stays when one of them goes on, or the keeper; condition: all lies as it says.
-/
import Derived.Test.YtffkjdmpeeagoaaDoorBP4
import Derived.Test.YtffkjdmpeeagoaaDoorTB8
namespace Go.Proofs.YtffkjdmpeeagoaaDoor
open Go.RowKit Go.Maps

def ptr (q : Nat) : Value := .pointer (some ⟨q, 0, none⟩)
def pJ (a : AS) (q : Nat) : Value := if a.o.ln ≠ 0 ∧ a.o.lv = false then ptr q else .pointer none
def pL (a : AS) (q : Nat) : Value := if a.o.ln ≠ 0 ∧ a.o.lv = true then ptr q else .pointer none
def updQ (f : Nat → Nat) (k v : Nat) : Nat → Nat := fun j => if j = k then v else f j
theorem updQ_same (f : Nat → Nat) (k v : Nat) : updQ f k v k = v := by simp [updQ]
theorem updQ_ne (f : Nat → Nat) {j k : Nat} (v : Nat) (h : j ≠ k) : updQ f k v j = f j := by simp [updQ, h]
/-- Nothing changes but blocks of those types, and the memory's two; nothing below. -/
structure Ty (B p b : Nat) (T : List TypeId) (w w' : World) : Prop where
  low : Below B w w'
  keep : ∀ x t cs, Bq x t cs w → t ∉ T → x ≠ p → x ≠ b → w'.heap[x]? = w.heap[x]?
section
variable {B p b q G k : Nat} {T : List TypeId} {t : TypeId} {cs : List Value} {M M' : MV} {o : TO} {w w' w'' : World} {lq : Nat → Nat} {A : Nat → AS} {vh vp vq : Value}
theorem Ty.refl (w : World) : Ty B p b T w w := ⟨Below.refl _ w, fun _ _ _ _ _ _ _ => rfl⟩
theorem Ty.trans (h : Ty B p b T w w') (g : Ty B p b T w' w'') : Ty B p b T w w'' := ⟨h.low.trans g.low, fun x t cs hb ht h1 h2 => by
  have e := h.keep x t cs hb ht h1 h2
  exact (g.keep x t cs (hb.same e) ht h1 h2).trans e⟩
theorem Ty.below (hB : B ≤ w.heap.size) (h : Below w.heap.size w w') : Ty B p b T w w' := ⟨h.mono hB, fun x _ _ hb _ _ _ => h.block x hb.lt⟩
theorem Ty.onl (hB : B ≤ w.heap.size) (hp : B ≤ p) (hb : B ≤ b) (h : Onl p b [q] w w') (hq : B ≤ q) (ho : Bq q t cs w) (ht : t ∈ T) : Ty B p b T w w' :=
  ⟨h.below hp hb (fun x hx => by rw [List.mem_singleton] at hx; omega) hB, fun x u ds hx hu h1 h2 => h.block x hx.lt h1 h2 (fun hm => by
    rw [List.mem_singleton] at hm
    subst hm
    have : u = t := by
      have := hx.symm.trans ho
      simp only [Option.some.injEq, Obj.cells.injEq] at this
      exact this.2.1
    exact hu (this ▸ ht))⟩
theorem Ty.fresh (hB : B ≤ w.heap.size) (hp : B ≤ p) (hb : B ≤ b) (h : Onl p b [] w w') : Ty B p b T w w' :=
  ⟨h.below hp hb (fun x hx => by cases hx) hB, fun x u ds hx hu h1 h2 => h.block x hx.lt h1 h2 (by simp)⟩
theorem Ty.set (hG : B ≤ G) {cur : Array Value} (ho : w.heap[G]? = some (.cells cur t (0, 0))) (ht : t ∈ T) (i : Nat) (v : Value) : Ty B p b T w (w.setCell ⟨G, i, none⟩ v) :=
  ⟨(Below.refl B w).setCell (p := ⟨G, i, none⟩) hG v, fun x u ds hx hu _ _ => Below.heap_setCell w ⟨G, i, none⟩ v x (fun e => by
    subst e
    have : u = t := by
      have := hx.symm.trans ho
      simp only [Option.some.injEq, Obj.cells.injEq] at this
      exact this.2.1
    exact hu (this ▸ ht))⟩
theorem PRep.bq (h : PRep q o w) : ∃ t cs, Bq q t cs w ∧ (t = 131 ∨ t = 142) := by
  rcases h with ⟨_, bl, th, wd, en, ow, bs, fd, jd, k, _⟩ | ⟨_, bl, th, wd, en, k, _⟩
  · exact ⟨_, _, k, .inl rfl⟩
  · exact ⟨_, _, k, .inr rfl⟩
theorem PRep.lt (h : PRep q o w) : q < w.heap.size := by obtain ⟨t, cs, k, _⟩ := h.bq; exact k.lt
theorem PRep.neM (h : PRep q o w) (F : VX p b M w) : q ≠ p ∧ q ≠ b := by
  obtain ⟨t, cs, k, rfl | rfl⟩ := h.bq
  · exact F.ne (by decide) k
  · exact F.ne (by decide) k
theorem PRep.neA (h : PRep q o w) {cur : Array Value} (hG : w.heap[G]? = some (.cells cur 70 (0, 0))) : q ≠ G := by
  obtain ⟨t, cs, k, ht⟩ := h.bq
  have kG : Bq G 70 cur.toList w := by unfold Bq; simpa using hG
  rcases ht with rfl | rfl
  · exact k.ne kG (by decide)
  · exact k.ne kG (by decide)
/-- All actors. -/
structure AW (B G : Nat) (lq : Nat → Nat) (A : Nat → AS) (w : World) : Prop where
  GB : B ≤ G
  blk : ∃ cur, w.heap[G]? = some (.cells cur 70 (0, 0)) ∧ cur.size = 24 ∧ ∀ j, j < 8 → cur[3 * j]? = some (.int .i64 (A j).th) ∧ cur[3 * j + 1]? = some (pJ (A j) (lq j)) ∧ cur[3 * j + 2]? = some (pL (A j) (lq j))
  op : ∀ j, j < 8 → (A j).o.ln ≠ 0 → B ≤ lq j ∧ PRep (lq j) (A j).o w
  sep : ∀ i j, i < 8 → j < 8 → i ≠ j → (A i).o.ln ≠ 0 → (A j).o.ln ≠ 0 → lq i ≠ lq j
/-- All but one, whose words are these. -/
structure AL (B G k : Nat) (lq : Nat → Nat) (A : Nat → AS) (vh vp vq : Value) (w : World) : Prop where
  GB : B ≤ G
  blk : ∃ cur, w.heap[G]? = some (.cells cur 70 (0, 0)) ∧ cur.size = 24 ∧ (∀ j, j < 8 → j ≠ k → cur[3 * j]? = some (.int .i64 (A j).th) ∧ cur[3 * j + 1]? = some (pJ (A j) (lq j)) ∧ cur[3 * j + 2]? = some (pL (A j) (lq j))) ∧ cur[3 * k]? = some vh ∧ cur[3 * k + 1]? = some vp ∧ cur[3 * k + 2]? = some vq
  op : ∀ j, j < 8 → j ≠ k → (A j).o.ln ≠ 0 → B ≤ lq j ∧ PRep (lq j) (A j).o w
  sep : ∀ i j, i < 8 → j < 8 → i ≠ k → j ≠ k → i ≠ j → (A i).o.ln ≠ 0 → (A j).o.ln ≠ 0 → lq i ≠ lq j
/-- A block that no other actor's operation is. -/
def SepB (k : Nat) (lq : Nat → Nat) (A : Nat → AS) (q : Nat) : Prop := ∀ j, j < 8 → j ≠ k → (A j).o.ln ≠ 0 → lq j ≠ q
theorem AW.al (W : AW B G lq A w) (hk : k < 8) : AL B G k lq A (.int .i64 (A k).th) (pJ (A k) (lq k)) (pL (A k) (lq k)) w := by
  obtain ⟨cur, h1, h2, h3⟩ := W.blk
  exact ⟨W.GB, ⟨cur, h1, h2, fun j hj _ => h3 j hj, h3 k hk⟩, fun j hj _ => W.op j hj, fun i j hi hj _ _ => W.sep i j hi hj⟩
theorem AW.sb (W : AW B G lq A w) (hk : k < 8) (h : (A k).o.ln ≠ 0) : SepB k lq A (lq k) := fun j hj hjk hl => W.sep j k hj hk hjk hl h
theorem AL.sb_new (L : AL B G k lq A vh vp vq w) (h : w.heap.size ≤ q) : SepB k lq A q := fun j hj hjk hl e => by
  have := (L.op j hj hjk hl).2.lt
  omega
theorem AL.aw (L : AL B G k lq A vh vp vq w) {a : AS} (h0 : vh = .int .i64 a.th) (h1 : vp = pJ a q) (h2 : vq = pL a q) (ho : a.o.ln ≠ 0 → B ≤ q ∧ PRep q a.o w ∧ SepB k lq A q) : AW B G (updQ lq k q) (putAS A k a) w := by
  subst h0 h1 h2
  obtain ⟨cur, g1, g2, g3, g4⟩ := L.blk
  refine ⟨L.GB, ⟨cur, g1, g2, fun j hj => ?_⟩, fun j hj hl => ?_, fun i j hi hj hij h1 h2 => ?_⟩
  · by_cases hjk : j = k
    · subst hjk; rw [updQ_same, putAS_same]; exact g4
    · rw [updQ_ne _ _ hjk, putAS_other hjk]; exact g3 j hj hjk
  · by_cases hjk : j = k
    · subst hjk
      rw [putAS_same] at hl
      rw [updQ_same, putAS_same]
      exact ⟨(ho hl).1, (ho hl).2.1⟩
    · rw [putAS_other hjk] at hl
      rw [updQ_ne _ _ hjk, putAS_other hjk]
      exact L.op j hj hjk hl
  · by_cases hik : i = k
    · subst hik
      rw [putAS_same] at h1
      rw [putAS_other (Ne.symm hij)] at h2
      rw [updQ_same, updQ_ne _ _ (Ne.symm hij)]
      exact Ne.symm ((ho h1).2.2 j hj (Ne.symm hij) h2)
    · rw [putAS_other hik] at h1
      rw [updQ_ne _ _ hik]
      by_cases hjk : j = k
      · subst hjk
        rw [putAS_same] at h2
        rw [updQ_same]
        exact (ho h2).2.2 i hi hik h1
      · rw [putAS_other hjk] at h2
        rw [updQ_ne _ _ hjk]
        exact L.sep i j hi hj hik hjk hij h1 h2
theorem AL.bg (L : AL B G k lq A vh vp vq w) : ∃ cs, Bq G 70 cs w := by
  obtain ⟨cur, h1, _⟩ := L.blk
  exact ⟨cur.toList, by unfold Bq; simpa using h1⟩
theorem AL.keep (L : AL B G k lq A vh vp vq w) (hG : w'.heap[G]? = w.heap[G]?) (ho : ∀ j, j < 8 → j ≠ k → (A j).o.ln ≠ 0 → w'.heap[lq j]? = w.heap[lq j]?) : AL B G k lq A vh vp vq w' := by
  obtain ⟨cur, h1, h2⟩ := L.blk
  exact ⟨L.GB, ⟨cur, hG.trans h1, h2⟩, fun j hj hjk hl => ⟨(L.op j hj hjk hl).1, (L.op j hj hjk hl).2.same (ho j hj hjk hl)⟩, L.sep⟩
theorem AL.below (L : AL B G k lq A vh vp vq w) (h : Below w.heap.size w w') : AL B G k lq A vh vp vq w' := by
  obtain ⟨cs, hb⟩ := L.bg
  exact L.keep (h.block G hb.lt) fun j hj hjk hl => h.block _ (L.op j hj hjk hl).2.lt
/-- A step of its own operation's, or of nobody's. -/
theorem AL.onl (L : AL B G k lq A vh vp vq w) (F : VX p b M w) (h : Onl p b [q] w w') (hq : q ≠ G) (so : SepB k lq A q) : AL B G k lq A vh vp vq w' := by
  obtain ⟨cs, hb⟩ := L.bg
  obtain ⟨n1, n2⟩ := F.ne (by decide) hb
  refine L.keep (h.block G hb.lt n1 n2 (by simpa using Ne.symm hq)) fun j hj hjk hl => ?_
  have P := (L.op j hj hjk hl).2
  exact h.block _ P.lt (P.neM F).1 (P.neM F).2 (by simpa using so j hj hjk hl)
theorem AL.only (L : AL B G k lq A vh vp vq w) (F : VX p b M w) (h : Onl p b [] w w') : AL B G k lq A vh vp vq w' := by
  obtain ⟨cs, hb⟩ := L.bg
  obtain ⟨n1, n2⟩ := F.ne (by decide) hb
  refine L.keep (h.block G hb.lt n1 n2 (by simp)) fun j hj hjk hl => ?_
  have P := (L.op j hj hjk hl).2
  exact h.block _ P.lt (P.neM F).1 (P.neM F).2 (by simp)
theorem AL.cells (L : AL B G k lq A vh vp vq w) : w.cell? ⟨G, 3 * k, none⟩ = some vh ∧ w.cell? ⟨G, 3 * k + 1, none⟩ = some vp ∧ w.cell? ⟨G, 3 * k + 2, none⟩ = some vq ∧ ∀ i, w.frozen? ⟨G, i, none⟩ = false := by
  obtain ⟨cur, h1, h2, h3, h4, h5, h6⟩ := L.blk
  exact ⟨(cell_of_row w G _ cur 70 (0, 0) h1).trans h4, (cell_of_row w G _ cur 70 (0, 0) h1).trans h5, (cell_of_row w G _ cur 70 (0, 0) h1).trans h6, fun i => by simp [World.frozen?, h1]⟩
theorem AL.set (L : AL B G k lq A vh vp vq w) (hk : k < 8) (i : Nat) (hi : i < 3) (v : Value) {a : Addr} (ha : a = ⟨G, 3 * k + i, none⟩) :
    AL B G k lq A (if i = 0 then v else vh) (if i = 1 then v else vp) (if i = 2 then v else vq) (w.setCell a v) ∧ ∀ x, x ≠ G → (w.setCell a v).heap[x]? = w.heap[x]? := by
  subst ha
  obtain ⟨cur, h1, h2, h3, h4, h5, h6⟩ := L.blk
  have hb : ∀ j, j ≠ G → (w.setCell ⟨G, 3 * k + i, none⟩ v).heap[j]? = w.heap[j]? := fun j hj => Below.heap_setCell w ⟨G, 3 * k + i, none⟩ v j hj
  refine ⟨⟨L.GB, ⟨_, setCell_blk h1 _ v, by simpa using h2, fun j hj hjk => ?_, ?_, ?_, ?_⟩, fun j hj hjk hl => ⟨(L.op j hj hjk hl).1, (L.op j hj hjk hl).2.same (hb _ ((L.op j hj hjk hl).2.neA h1))⟩, L.sep⟩, hb⟩
  · obtain ⟨a1, a2, a3⟩ := h3 j hj hjk
    simp only [Array.getElem?_setIfInBounds]
    rw [if_neg (by omega), if_neg (by omega), if_neg (by omega)]
    exact ⟨a1, a2, a3⟩
  · rw [Array.getElem?_setIfInBounds]
    by_cases e : i = 0
    · subst e; simp [show 3 * k < cur.size by omega]
    · rw [if_neg (by omega), if_neg e]; exact h4
  · rw [Array.getElem?_setIfInBounds]
    by_cases e : i = 1
    · subst e; simp [show 3 * k + 1 < cur.size by omega]
    · rw [if_neg (by omega), if_neg e]; exact h5
  · rw [Array.getElem?_setIfInBounds]
    by_cases e : i = 2
    · subst e; simp [show 3 * k + 2 < cur.size by omega]
    · rw [if_neg (by omega), if_neg e]; exact h6
theorem AL.set0 (L : AL B G k lq A vh vp vq w) (hk : k < 8) (v : Value) {a : Addr} (ha : a = ⟨G, 3 * k, none⟩) : AL B G k lq A v vp vq (w.setCell a v) := by
  have := (L.set hk 0 (by decide) v (a := a) (ha.trans (by simp))).1
  simpa using this
theorem AL.set1 (L : AL B G k lq A vh vp vq w) (hk : k < 8) (v : Value) {a : Addr} (ha : a = ⟨G, 3 * k + 1, none⟩) : AL B G k lq A vh v vq (w.setCell a v) := by
  have := (L.set hk 1 (by decide) v ha).1
  simpa using this
theorem AL.set2 (L : AL B G k lq A vh vp vq w) (hk : k < 8) (v : Value) {a : Addr} (ha : a = ⟨G, 3 * k + 2, none⟩) : AL B G k lq A vh vp v (w.setCell a v) := by
  have := (L.set hk 2 (by decide) v ha).1
  simpa using this
theorem AL.fmG (L : AL B G k lq A vh vp vq w) (hB : 1 < B) (F : VX p b M w) {a : Addr} (ha : a.block = G) (hf : a.spot = none) (v : Value) : VX p b M (w.setCell a v) := by
  obtain ⟨cs, hb⟩ := L.bg
  obtain ⟨n1, n2⟩ := F.ne (by decide) hb
  have hGB := L.GB
  obtain ⟨g, i, f⟩ := a
  simp only at ha hf
  subst ha hf
  exact F.setQ n1 n2 (by omega) i v
theorem AL.tyG (L : AL B G k lq A vh vp vq w) {a : Addr} (ha : a.block = G) (hf : a.spot = none) (v : Value) (hT : 70 ∈ T) : Ty B p b T w (w.setCell a v) := by
  obtain ⟨cur, h1, _⟩ := L.blk
  obtain ⟨g, i, f⟩ := a
  simp only at ha hf
  subst ha hf
  exact Ty.set L.GB h1 hT i v
theorem AW.ty {T : List TypeId} (W : AW B G lq A w) (F : VX p b M w) (h : Ty B p b T w w') (h1 : 70 ∉ T) (h2 : 131 ∉ T) (h3 : 142 ∉ T) : AW B G lq A w' := by
  obtain ⟨cur, g1, g2⟩ := W.blk
  have kG : Bq G 70 cur.toList w := by unfold Bq; simpa using g1
  obtain ⟨n1, n2⟩ := F.ne (by decide) kG
  refine ⟨W.GB, ⟨cur, (h.keep _ _ _ kG h1 n1 n2).trans g1, g2⟩, fun j hj hl => ⟨(W.op j hj hl).1, (W.op j hj hl).2.same ?_⟩, W.sep⟩
  have P := (W.op j hj hl).2
  obtain ⟨t, cs, k, ht⟩ := P.bq
  exact h.keep _ _ _ k (by rcases ht with rfl | rfl <;> assumption) (P.neM F).1 (P.neM F).2
end
end Go.Proofs.YtffkjdmpeeagoaaDoor
