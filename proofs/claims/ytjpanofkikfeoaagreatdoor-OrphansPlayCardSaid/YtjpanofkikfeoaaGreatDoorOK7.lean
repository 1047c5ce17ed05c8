/-
  Package orphans: an entry more of a Take, and what it got; condition: the operation, its row and the memory lie as they say, numbers of their kinds.
  Package orphans: a step of a Give and of a Take does what the chapter's does; new ones, whether one is over, what was got; condition: the operation and the memory lie as they say, numbers of their kinds.
-/
import Derived.Test.YtjpanofkikfeoaaGreatDoorOK0
import Derived.Test.YtjpanofkikfeoaaGreatDoorOD1
namespace Go.Proofs.YtjpanofkikfeoaaGreatDoor
open Go.RowKit Go.Maps

section
variable {p b q : Nat} {nx hd tq th es eg eb ec ed v : Int} {ek : Bool} {M : MV} {w w' w0 : World} {got : List EP} {sl v' : Value}
theorem VX.grown12 {vb : Option Nat} (F : VX p b M w) (g : w.grownBy w' vb) (h : ∀ x, vb = some x → 1 < x ∧ x ≠ p ∧ x ≠ b) : VX p b M w' := by
  obtain ⟨hp1, hp2⟩ := F.lt
  have hs : ∀ z, z < w.heap.size → (z ≤ 1 ∨ z = p ∨ z = b) → w'.heap[z]? = w.heap[z]? := fun z hz hk => g.block z hz fun e => by
    obtain ⟨h1, h2, h3⟩ := h z e.symm
    omega
  obtain ⟨⟨n, D, h1, h2, h3, h4⟩, hl, hm, hp, hq⟩ := F
  exact ⟨⟨n, D, h1, h2, h3.keep3 (hs p hp1 (by omega)) (hs b hp2 (by omega)), h4⟩, hl.same3 g.size (hs _ hl.1 (.inl (by decide))), hm.same g.size (hs _ hm.1 (.inl (by decide))), hp, hq⟩
/-- Behind an entry more: the memory, the operation, its row, what is left alone. -/
structure EraP (p b q : Nat) (nx hd tq th es eg : Int) (ek : Bool) (eb ec ed : Int) (got : List EP) (sl v' : Value) (M : MV) (w0 w : World) : Prop where
  f : VX p b M w
  k : Bq q 82 (UC nx hd tq th (TTl es eg ek eb ec ed v')) w
  r : OwnE w 0 v' got
  g : v'.ownBlock = sl.ownBlock ∨ ∃ x, v'.ownBlock = some x ∧ w0.heap.size ≤ x
  o : Onl p b (q :: sl.ownBlock.toList) w0 w
theorem own_apart (h : OwnE w 0 sl got) (F : VX p b M w) {cs : List Value} (k : Bq q 82 cs w) {x : Nat} (hx : sl.ownBlock = some x) : x ≠ p ∧ x ≠ b ∧ x ≠ q := by
  obtain ⟨_, ds, kx⟩ := h.bq hx
  obtain ⟨h1, h2⟩ := F.ne (by decide) kx
  exact ⟨h1, h2, kx.ne k (by decide)⟩
theorem AtU.grow {e : EP} (h : AtU p b q 82 nx hd tq th (TTl es eg ek eb ec ed sl) M w0 w) (hq : 1 < q) (R : OwnE w 0 sl got) (hB : ∀ x, sl.ownBlock = some x → 1 < x) (ho : w'.ownsRow 0 62 6 v' (got.length + 1) (flatE got ++ e.cells)) (hg : w.grownBy w' sl.ownBlock) (hb : v'.ownBlock = sl.ownBlock ∨ v'.ownBlock = some w.heap.size) :
    w'.cell? ⟨q, 10, none⟩ = some sl ∧ w'.frozen? ⟨q, 10, none⟩ = false ∧ EraP p b q nx hd tq th es eg ek eb ec ed (got ++ [e]) sl v' M w0 (w'.setCell ⟨q, 10, none⟩ v') := by
  have hap := fun x hx => own_apart R h.f h.k (x := x) hx
  have hkq : w'.heap[q]? = w.heap[q]? := hg.block q h.k.lt fun e => (hap q e.symm).2.2 rfl
  have k' := h.k.same hkq
  have F' := h.f.grown12 hg fun x hx => ⟨hB x hx, (hap x hx).1, (hap x hx).2.1⟩
  obtain ⟨n1, n2⟩ := F'.ne (by decide) k'
  have hG : OwnE w' 0 v' (got ++ [e]) := by
    unfold OwnE
    rw [flatE_app, List.length_append]
    have : flatE [e] = e.cells := by simp [flatE]
    rw [this]
    exact ho
  refine ⟨k'.tc12.2.2.2.2.2.2, k'.free 10, ⟨F'.setQ n1 n2 hq 10 v', k'.set 10 v' rfl, hG.same fun x hx => ?_, ?_, ?_⟩⟩
  · obtain ⟨_, cs, kx⟩ := hG.bq hx
    exact Below.heap_setCell w' ⟨q, 10, none⟩ v' x fun e => kx.ne k' (by decide) e
  · rcases hb with hb | hb
    · exact .inl hb
    · exact .inr ⟨_, hb, h.o.size⟩
  · have o1 : Onl p b (q :: sl.ownBlock.toList) w0 w := h.o.more (by simp)
    have o2 : Onl p b (q :: sl.ownBlock.toList) w w' := ⟨hg.os, hg.tape, hg.output, hg.size, fun z hz _ _ h3 => hg.block z hz fun e => h3 (by rw [← e]; simp)⟩
    exact (o1.trans o2).trans (.setCell _ (by simp) 10 v')
set_option maxRecDepth 100000 in
set_option maxHeartbeats 8000000 in
theorem eraT {A : Option Addr} {cp : Nat} (hq : 1 < q) (F : VX p b M w) (hs : M.s.st < 1000000) (k : Bq q 82 (UC nx hd tq th (TTl es eg ek eb ec ed (.slice A got.length cp))) w) (R : OwnE w 0 (.slice A got.length cp) got) (hB : ∀ x, (Value.slice A got.length cp).ownBlock = some x → 1 < x) (hl : got.length < 256) (hr : 0 ≤ es ∧ es < 256) (hv : M.V (adS es 4) = v) :
    Calls Tryz.prog 71 #[.pointer (some ⟨q, 0, none⟩), .pointer (some ⟨p, 0, none⟩)] w fun e w' => e = .returned (.int .i64 7) ∧ ∃ v', EraP p b q nx hd tq th es eg ek eb ec v (got ++ [⟨es, eg, ek, eb, ec, v⟩]) (.slice A got.length cp) v' (ldM M (adS es 4)) w w' := by
  obtain ⟨i0, hi0, hz0, hz1, hz2⟩ := info_parts infoE
  have HA := Lib.hid (AtU.start F k)
  have HR := Lib.hid (And.intro R hB)
  have HF := Lib.hid (And.intro F k)
  have HV := Lib.hid hv
  have HL := Lib.hid hl
  clear F k hv R hB hl
  go_enter Tryz.func71, Tryz.ntmps71
  go_wp2_with fail
  ((with_reducible refine (loadT HA.out.f hs HA.out.k hr (by decide) HV.out).mono ?_); rintro ee w1 ⟨rfl, A1⟩)
  have HA1 := Lib.hid A1
  clear A1
  have z9 := HA1.out.k.free 9
  have g9 := HA1.out.k.tc12.2.2.2.2.2.1
  have HO3 := Lib.hid (HA1.out.set (by decide) hq 9 (.int .u64 v) (nx' := nx) (hd' := hd) (to' := tq) (th' := th) (tl' := TTl es eg ek eb ec v (.slice A got.length cp)) rfl)
  go_upto_region 2 with (fail)
  clear z9 g9 HA1
  revert HO3
  generalize w1.setCell ⟨q, 9, none⟩ (.int .u64 v) = Y
  intro HO3
  have HRY := Lib.hid (show OwnE Y 0 (.slice A got.length cp) got from HR.out.1.same fun x hx => by
    obtain ⟨h1, h2, h3⟩ := own_apart HR.out.1 HF.out.1 HF.out.2 hx
    exact HO3.out.o.block x (HR.out.1.lt hx) h1 h2 (by simp [h3]))
  have hA0 : Below Y.heap.size Y (Y.alloc (.cells #[.int .i64 es, .int .u32 eg, .bool ek, .int .u64 eb, .int .u64 ec, .int .u64 v] 62)) := (Below.refl _ _).alloc (Nat.le_refl _) _
  have HOA := Lib.hid (HO3.out.below (hA0.drew))
  have HRA := Lib.hid (HRY.out.below hA0.drew)
  have hcc := (HO3.out.below (hA0.drew)).k.tc12
  obtain ⟨d4, d5, d6, d7, d8, d9, d10⟩ := hcc
  have hcd := (HO3.out.below ((Below.refl _ Y).drew)).k.tc12
  obtain ⟨f4, f5, f6, f7, f8, f9, f10⟩ := hcd
  have HNEW := Lib.hid (show Bq Y.heap.size 62 (EP.cells ⟨es, eg, ek, eb, ec, v⟩) (Y.alloc (.cells #[.int .i64 es, .int .u32 eg, .bool ek, .int .u64 eb, .int .u64 ec, .int .u64 v] 62)).drew from Bq.new Y (EP.cells ⟨es, eg, ek, eb, ec, v⟩) 62)
  have hnews : ∀ j u, (EP.cells ⟨es, eg, ek, eb, ec, v⟩)[j]? = some u → (Y.alloc (.cells #[.int .i64 es, .int .u32 eg, .bool ek, .int .u64 eb, .int .u64 ec, .int .u64 v] 62)).drew.cell? ((⟨Y.heap.size, 0, none⟩ : Addr).add j) = some u := by
    intro j u hj
    have h9 := HNEW.out.cell j
    by_cases h0 : j = 0
    · subst h0
      simpa [Addr.add] using h9.trans hj
    · simpa [Addr.add, h0] using h9.trans hj
  have HNW := Lib.hid hnews
  have hone : ∀ u ∈ EP.cells ⟨es, eg, ek, eb, ec, v⟩, u.oneCell' = true := fun u hu => flatE_one (xs := [⟨es, eg, ek, eb, ec, v⟩]) u (by simpa [flatE] using hu)
  have HONE := Lib.hid hone
  clear hA0 hnews hone
  go_region_law ((refine step_append_at _ rfl (.tmp 16) (.tmp 21) 31 rfl 0 62 i0 _ 6 40 Tryz.underlying31 hi0 hz0 hz1 hz2 rfl (by decide) (.slice A got.length cp) got.length (flatE got) (by simp [Act.eval]) HRA.out ⟨Y.heap.size, 0, none⟩ 1 1 (EP.cells ⟨es, eg, ek, eb, ec, v⟩) (by simp [Act.eval]) rfl HNW.out HONE.out (by have := HL.out; unfold maxLen; omega) (by have := HL.out; omega) (Nat.zero_le _) ?_; intro v' w6 hr6 hg6 hb6; obtain ⟨A6, k6, rfl⟩ := ownsRow_form hr6; obtain ⟨k1, z1, hO6⟩ := HOA.out.grow hq HRA.out HR.out.2 hr6 hg6 hb6; have HO6 := Lib.hid hO6; clear hr6 hg6 hb6 hO6))
  all_goals
    go_wp2_with fail
    go_ret
    exact ⟨rfl, _, HO6.out⟩
end
end Go.Proofs.YtjpanofkikfeoaaGreatDoor
namespace Go.Proofs.YtjpanofkikfeoaaGreatDoor
open Go.RowKit Go.Maps

/-- A block of the program's operation. -/
def okP (t : TypeId) : Bool := t == 77 || t == 82 || t == 62 || t == 3
theorem okP_okT {t : TypeId} (h : okP t = true) : okT t = true := by
  unfold okP at h
  unfold okT
  simp only [Bool.or_eq_true] at h ⊢
  rcases h with ((h | h) | h) | h
  · exact .inl (.inl (.inl (.inl h)))
  · exact .inl (.inl (.inl (.inr h)))
  · exact .inl (.inr h)
  · exact .inr h
/-- The program's number of a Give's line. -/
def nxG (l : Int) : Int := if l = 1 then 3 else if l = 2 then 1 else if l = 3 then 4 else if l = 4 then 2 else 0
/-- The program's Give. -/
def GRep (q : Nat) (fp : List Nat) (o : OG) (w : World) : Prop :=
  (o.ln = 0 ∧ ∃ hd tq th tl, Bq q 77 (UC 0 hd tq th tl) w) ∨
  (o.ln ≠ 0 ∧ ∃ y cp rs, y ∈ fp ∧ Bq q 77 (UC (nxG o.ln) o.h (slA o.g 0) 0 (GTl (.slice (some ⟨y, 0, none⟩) o.g.length cp) (o.i : Int) rs)) w ∧ Bq y 3 (o.g.map fun e => .int .i64 e.s) w ∧ (o.ln = 3 → rs = wSlot o.h) ∧ (o.ln ≠ 1 → o.i + 1 = o.g.length))
/-- The entry that a Take is at, in the program: as far as it was read. -/
def TEn (o : OG) (es eg : Int) (ek : Bool) (eb ec ed : Int) : Prop := (o.ln = 2 → es = wSlot o.h ∧ eg = 0 ∧ ek = false ∧ eb = 0 ∧ ec = 0 ∧ ed = 0) ∧ (o.ln = 3 → es = o.s ∧ eg = 0 ∧ ek = false ∧ eb = 0 ∧ ec = 0 ∧ ed = 0) ∧ (4 ≤ o.ln → es = o.s ∧ o.e = ⟨es, eg, ek, eb, ec, ed⟩)
/-- The program's Take. -/
def TRep (q : Nat) (fp : List Nat) (o : OG) (w : World) : Prop :=
  ∃ tq th es eg ek eb ec ed sl, Bq q 82 (UC o.ln o.h tq th (TTl es eg ek eb ec ed sl)) w ∧ OwnE w 0 sl o.got ∧ (∀ x, sl.ownBlock = some x → x ∈ fp) ∧ (o.ln ≠ 0 → tq = -1 ∧ th = 3) ∧ TEn o es eg ek eb ec ed
/-- The program's operation (a Take: kd), its blocks. -/
structure PRepO (kd : Bool) (q : Nat) (fp : List Nat) (o : OG) (w : World) : Prop where
  mem : q ∈ fp
  own : ∀ y ∈ fp, ∃ t cs, Bq y t cs w ∧ okP t = true
  qt : ∃ t cs, Bq q t cs w ∧ t = (if kd = true then 82 else 77)
  kt : kd = true → o.g = []
  kf : kd = false → o.got = [] ∧ (o.ln ≠ 0 → o.g ≠ [])
  rep : if kd = true then TRep q fp o w else GRep q fp o w
def fnO (kd : Bool) : FuncId := if kd = true then 28 else 26
section
variable {p b q : Nat} {kd : Bool} {fp : List Nat} {o : OG} {M : MV} {w w' : World}
theorem GRep.same (h : GRep q fp o w) (hq : q ∈ fp) (hs : ∀ y ∈ fp, w'.heap[y]? = w.heap[y]?) : GRep q fp o w' := by
  rcases h with ⟨h0, hd, tq, th, tl, k⟩ | ⟨h0, y, cp, rs, hy, k, r, h1, h2⟩
  · exact .inl ⟨h0, hd, tq, th, tl, k.same (hs q hq)⟩
  · exact .inr ⟨h0, y, cp, rs, hy, k.same (hs q hq), r.same (hs y hy), h1, h2⟩
theorem TRep.same (h : TRep q fp o w) (hq : q ∈ fp) (hs : ∀ y ∈ fp, w'.heap[y]? = w.heap[y]?) : TRep q fp o w' := by
  obtain ⟨tq, th, es, eg, ek, eb, ec, ed, sl, k, R, hx, h1, h2⟩ := h
  exact ⟨tq, th, es, eg, ek, eb, ec, ed, sl, k.same (hs q hq), R.same fun x h => hs x (hx x h), hx, h1, h2⟩
theorem PRepO.same (h : PRepO kd q fp o w) (hs : ∀ y ∈ fp, w'.heap[y]? = w.heap[y]?) : PRepO kd q fp o w' := by
  refine ⟨h.mem, fun y hy => ?_, ?_, h.kt, h.kf, ?_⟩
  · obtain ⟨t, cs, k, h1⟩ := h.own y hy
    exact ⟨t, cs, k.same (hs y hy), h1⟩
  · obtain ⟨t, cs, k, h1⟩ := h.qt
    exact ⟨t, cs, k.same (hs q h.mem), h1⟩
  · have hr := h.rep
    cases kd
    · exact GRep.same hr h.mem hs
    · exact TRep.same hr h.mem hs
/-- Behind a step of the program's. -/
def ODone (kd : Bool) (p b q : Nat) (fp : List Nat) (R : OG × MV) (w : World) (e : Ending) (w' : World) : Prop := e = .returned (.bool (R.1.ln == 0)) ∧ ∃ fp', (∀ y ∈ fp', y ∈ fp ∨ w.heap.size ≤ y) ∧ PRepO kd q fp' R.1 w' ∧ VX p b R.2 w' ∧ Onl p b fp w w'
theorem okP_G : okP 77 = true := by decide
theorem okP_T : okP 82 = true := by decide
theorem okP_E : okP 62 = true := by decide
/-- An operation's blocks behind a step that writes into it alone. -/
theorem own_after {t : TypeId} {cs cs' : List Value} (h : PRepO kd q fp o w) (F : VX p b M w) (k : Bq q t cs w) (o1 : Onl p b [q] w w') (k' : Bq q t cs' w') : ∀ y ∈ fp, ∃ t cs, Bq y t cs w' ∧ okP t = true := fun y hy => by
  obtain ⟨t1, c1, k1, h1⟩ := h.own y hy
  by_cases e : y = q
  · subst e
    obtain rfl := bq_type k1 k
    exact ⟨_, _, k', h1⟩
  · obtain ⟨n1, n2⟩ := F.ne (fun e => by rw [e] at h1; revert h1; decide) k1
    exact ⟨_, _, k1.same (o1.block y k1.lt n1 n2 (by simp [e])), h1⟩
/-- A Give's step that leaves it under way. -/
theorem gdone {nx nx' hd' tq' th' : Int} {tl' : List Value} {M' : MV} {o' : OG} {e : Ending} {n : Int} (h : PRepO false q fp o w) (F : VX p b M w) {cs : List Value} (k : Bq q 77 cs w) (hq : 1 < q)
    (he : e = .returned (.bool (n == 0))) (hY : ∃ Y, AtU p b q 77 nx hd' tq' th' tl' M' w Y ∧ w' = Y.setCell ⟨q, 0, none⟩ (.int .i64 n)) (hn : nx' = n) (hl : (n == 0) = (o'.ln == 0)) (hg : o'.g = o.g) (hgo : o'.got = []) (hgn : o.g ≠ [])
    (hr : ∀ X, Bq q 77 (UC nx' hd' tq' th' tl') X → (∀ y t ds, t ≠ 96 → t ≠ 77 → Bq y t ds w → Bq y t ds X) → GRep q fp o' X) : ODone false p b q fp (o', M') w e w' := by
  obtain ⟨Y, A, rfl⟩ := hY
  subst hn
  have B := A.set (by decide) hq 0 (.int .i64 nx') (nx' := nx') (hd' := hd') (to' := tq') (th' := th') (tl' := tl') rfl
  refine ⟨by rw [he, hl], fp, fun y hy => .inl hy, ⟨h.mem, own_after h F k B.o B.k, ⟨_, _, B.k, rfl⟩, (fun e => by cases e), fun _ => ⟨hgo, fun _ => hg ▸ hgn⟩, ?_⟩, B.f, B.o.more (by simp [h.mem])⟩
  exact hr _ B.k fun y t ds h1 h2 ky => B.row F ky h1 (ky.ne k h2)
/-- A Take's step but that of line 6. -/
theorem tdone {nx nx' hd' tq' th' : Int} {tl' : List Value} {M' : MV} {o' : OG} {e : Ending} {n : Int} (h : PRepO true q fp o w) (F : VX p b M w) {cs : List Value} (k : Bq q 82 cs w) (hq : 1 < q)
    (he : e = .returned (.bool (n == 0))) (hY : ∃ Y, AtU p b q 82 nx hd' tq' th' tl' M' w Y ∧ w' = Y.setCell ⟨q, 0, none⟩ (.int .i64 n)) (hn : nx' = n) (hl : n = o'.ln) (hg : o'.g = [])
    (hr : ∀ X, Bq q 82 (UC nx' hd' tq' th' tl') X → (∀ sl xs, OwnE w 0 sl xs → OwnE X 0 sl xs) → TRep q fp o' X) : ODone true p b q fp (o', M') w e w' := by
  obtain ⟨Y, A, rfl⟩ := hY
  subst hn
  have B := A.set (by decide) hq 0 (.int .i64 nx') (nx' := nx') (hd' := hd') (to' := tq') (th' := th') (tl' := tl') rfl
  refine ⟨by rw [he, hl], fp, fun y hy => .inl hy, ⟨h.mem, own_after h F k B.o B.k, ⟨_, _, B.k, rfl⟩, fun _ => hg, (fun e => by cases e), ?_⟩, B.f, B.o.more (by simp [h.mem])⟩
  refine hr _ B.k fun sl xs R => R.same fun x hx => ?_
  obtain ⟨_, ds, kx⟩ := R.bq hx
  obtain ⟨n1, n2⟩ := F.ne (by decide) kx
  exact B.o.block x kx.lt n1 n2 (by simp [kx.ne k (by decide)])
theorem row_at {g : List EP} {j : Nat} (h : j < g.length) : (g.map fun e => Value.int .i64 e.s)[j]? = some (.int .i64 (slA g j)) := by
  unfold slA
  rw [List.getElem?_map, List.getD_eq_getElem?_getD, List.getElem?_eq_getElem h]
  rfl
/-- From a line's contract in a world behind what was drawn. -/
theorem AtU.back {T : TypeId} {nx hd tq th : Int} {tl : List Value} {M' : MV} {X Y : World} (hX : Below w.heap.size w X) (A : AtU p b q T nx hd tq th tl M' X Y) : AtU p b q T nx hd tq th tl M' w Y := A.trans (.of_below hX)
set_option maxRecDepth 100000 in
set_option maxHeartbeats 4000000 in
theorem give_step (hq : 1 < q) (F : VX p b M w) (hs : M.s.st < 1000000) (ok : ONum o) (hgl : o.g.length < 100000) (R : PRepO false q fp o w) : Calls Tryz.prog 26 #[.pointer (some ⟨q, 0, none⟩), .pointer (some ⟨p, 0, none⟩)] w (ODone false p b q fp (oX o M) w) := by
  have hr : GRep q fp o w := R.rep
  obtain ⟨hgo, hgn⟩ := R.kf rfl
  rcases hr with ⟨h0, hd, tq, th, tl, k⟩ | ⟨h0, y, cp, rs, hy, k, r, h1, h2⟩
  · have e0 : oX o M = (o, M) := by
      unfold oX giveX takeX
      rw [h0]
      split
      · rw [if_neg (show ¬ (0 : Int) = 1 by decide), if_neg (show ¬ (0 : Int) = 2 by decide), if_neg (show ¬ (0 : Int) = 3 by decide), if_neg (show ¬ (0 : Int) = 4 by decide), if_neg (show ¬ (0 : Int) = 5 by decide), if_neg (show ¬ (0 : Int) = 6 by decide), if_neg (show ¬ (0 : Int) = 7 by decide)]
      · rw [if_neg (show ¬ (0 : Int) = 1 by decide), if_neg (show ¬ (0 : Int) = 2 by decide), if_neg (show ¬ (0 : Int) = 3 by decide), if_neg (show ¬ (0 : Int) = 4 by decide)]
    rw [e0]
    refine (stepOG_over _ k).mono ?_
    rintro e w' ⟨rfl, rfl⟩
    exact ⟨by rw [h0]; rfl, fp, fun y hy => .inl hy, R, F, .refl _⟩
  have hg := hgn h0
  have e0 : oX o M = giveX o M := by unfold oX; rw [if_neg hg]
  rw [e0]
  clear e0
  obtain ⟨ln, got, g, i, hh, s, en⟩ := o
  obtain ⟨u1, u2, u3, u4, u5, _⟩ := ok
  simp only at hgo hg h0 h1 h2 hgl k r u1 u2 u5
  obtain ⟨_, m3⟩ := u5 hg
  obtain ⟨m1, m2, m4⟩ := m3 h0
  subst hgo
  have hl0 : 0 < g.length := List.length_pos_iff.2 hg
  obtain ⟨l1, hl1⟩ : ∃ l1, g.length = l1 + 1 := ⟨g.length - 1, by omega⟩
  have hl1' : (g.length : Int) = (l1 : Int) + 1 := by omega
  have hl2 : l1 < 100000 := by omega
  have hra : ∀ j, j < g.length → 0 ≤ slA g j ∧ slA g j < 256 := fun j hj => slA_in m1 hj
  unfold giveX
  dsimp only
  obtain rfl | rfl | rfl | rfl : ln = 1 ∨ ln = 2 ∨ ln = 3 ∨ ln = 4 := by omega
  · rw [if_pos rfl]
    have hi := m4 rfl
    have k : Bq q 77 (UC 3 hh (slA g 0) 0 (GTl (.slice (some ⟨y, 0, none⟩) g.length cp) (i : Int) rs)) w := k
    have hj : (i : Int) + 1 = ((i + 1 : Nat) : Int) := by omega
    by_cases hc : ((i + 1 : Nat) : Int) < (l1 : Int)
    · have hc2 : ¬ i + 2 = g.length := by omega
      rw [if_neg hc2]
      refine (stepOG_3 k (fun X hX => (linkG_on hq (F.below hX) hs (k.below hX) (r.below hX) hj (row_at (by omega)) (row_at hi) hi (hra i (by omega)) hl1' hl2 hc).mono fun e Y h => ⟨h.1, h.2.back hX⟩) fun Y A => ⟨_, _, _, _, A.k⟩).mono ?_
      rintro e w' ⟨he, hY⟩
      exact gdone R F k hq he hY rfl rfl rfl rfl hg fun X kX rX => .inr ⟨(by dsimp only; omega), y, cp, rs, hy, kX, rX y _ _ (by decide) (by decide) r, (by intro h; dsimp only at h; omega), (by intro h; dsimp only at h; omega)⟩
    · have hc2 : i + 2 = g.length := by omega
      rw [if_pos hc2]
      refine (stepOG_3 k (fun X hX => (linkG_end hq (F.below hX) hs (k.below hX) (r.below hX) hj (row_at (by omega)) (row_at hi) hi (hra i (by omega)) hl1' hl2 hc).mono fun e Y h => ⟨h.1, h.2.back hX⟩) fun Y A => ⟨_, _, _, _, A.k⟩).mono ?_
      rintro e w' ⟨he, hY⟩
      exact gdone R F k hq he hY rfl rfl rfl rfl hg fun X kX rX => .inr ⟨(by dsimp only; omega), y, cp, rs, hy, kX, rX y _ _ (by decide) (by decide) r, (by intro h; dsimp only at h; omega), fun _ => hc2⟩
  · rw [if_neg (show ¬ (2 : Int) = 1 by decide), if_pos rfl]
    have hi := h2 (by decide)
    have k : Bq q 77 (UC 1 hh (slA g 0) 0 (GTl (.slice (some ⟨y, 0, none⟩) g.length cp) (i : Int) rs)) w := k
    refine (stepOG_1 k (fun X hX => (readG hq (F.below hX) hs (k.below hX) rfl).mono fun e Y h => ⟨h.1, h.2.back hX⟩) fun Y A => ⟨_, _, _, _, A.k⟩).mono ?_
    rintro e w' ⟨he, hY⟩
    exact gdone R F k hq he hY rfl rfl rfl rfl hg fun X kX rX => .inr ⟨(by dsimp only; omega), y, cp, _, hy, kX, rX y _ _ (by decide) (by decide) r, fun _ => rfl, fun _ => hi⟩
  · rw [if_neg (show ¬ (3 : Int) = 1 by decide), if_neg (show ¬ (3 : Int) = 2 by decide), if_pos rfl]
    have hi := h2 (by decide)
    obtain rfl := h1 rfl
    have k : Bq q 77 (UC 4 hh (slA g 0) 0 (GTl (.slice (some ⟨y, 0, none⟩) g.length cp) (i : Int) (wSlot hh))) w := k
    have hil : i < g.length := by omega
    have hie : g.length - 1 = i := by omega
    rw [hie]
    refine (stepOG_4 k (fun X hX => (hangG (F.below hX) hs (k.below hX) (r.below hX) (row_at hil) hil (hra i hil)).mono fun e Y h => ⟨h.1, h.2.back hX⟩) fun Y A => ⟨_, _, _, _, A.k⟩).mono ?_
    rintro e w' ⟨he, hY⟩
    exact gdone R F k hq he hY rfl rfl rfl rfl hg fun X kX rX => .inr ⟨(by dsimp only; omega), y, cp, _, hy, kX, rX y _ _ (by decide) (by decide) r, (by intro h; dsimp only at h; omega), fun _ => hi⟩
  · rw [if_neg (show ¬ (4 : Int) = 1 by decide), if_neg (show ¬ (4 : Int) = 2 by decide), if_neg (show ¬ (4 : Int) = 3 by decide), if_pos rfl]
    have hi := h2 (by decide)
    have k : Bq q 77 (UC 2 hh (slA g 0) 0 (GTl (.slice (some ⟨y, 0, none⟩) g.length cp) (i : Int) rs)) w := k
    by_cases hc : casV M.V adO hh = true
    · rw [if_pos hc]
      refine (stepOG_2 k (fun X hX => (swapU_true (by decide) (F.below hX) hs (k.below hX) u1 hc).mono fun e Y h => ⟨h.1, h.2.back hX⟩) fun Y A => ⟨_, _, _, _, A.k⟩).mono ?_
      rintro e w' ⟨he, hY⟩
      exact gdone R F k hq he hY rfl rfl rfl rfl hg fun X kX rX => .inl ⟨rfl, _, _, _, _, kX⟩
    · rw [if_neg hc]
      have hc2 : casV M.V adO hh = false := by simpa using hc
      refine (stepOG_2 k (fun X hX => (swapU_false (by decide) (F.below hX) hs (k.below hX) u1 hc2).mono fun e Y h => ⟨h.1, h.2.back hX⟩) fun Y A => ⟨_, _, _, _, A.k⟩).mono ?_
      rintro e w' ⟨he, hY⟩
      exact gdone R F k hq he hY rfl rfl rfl rfl hg fun X kX rX => .inr ⟨(by dsimp only; omega), y, cp, rs, hy, kX, rX y _ _ (by decide) (by decide) r, (by intro h; dsimp only at h; omega), fun _ => hi⟩
set_option maxRecDepth 100000 in
set_option maxHeartbeats 4000000 in
theorem take_step (hB : ∀ y ∈ fp, 1 < y) (F : VX p b M w) (hs : M.s.st < 1000000) (ok : ONum o) (R : PRepO true q fp o w) : Calls Tryz.prog 28 #[.pointer (some ⟨q, 0, none⟩), .pointer (some ⟨p, 0, none⟩)] w (ODone true p b q fp (oX o M) w) := by
  have hr : TRep q fp o w := R.rep
  have hq := hB q R.mem
  have hg := R.kt rfl
  obtain ⟨tq, th, es, eg, ek, eb, ec, ed, sl, k, R1, hx, h1, h2, h3, h4⟩ := hr
  have e0 : oX o M = takeX o M := by unfold oX; rw [if_pos hg]
  rw [e0]
  clear e0
  obtain ⟨ln, got, g, i, hh, s, en⟩ := o
  obtain ⟨u1, u2, u3, u4, _, u6⟩ := ok
  simp only at hg h1 h2 h3 h4 k R1 u1 u2 u3 u6
  obtain ⟨m1, m2, m3, m4, m5, m6⟩ := u6 hg
  subst hg
  unfold takeX
  dsimp only
  by_cases h0 : ln = 0
  · subst h0
    rw [if_neg (show ¬ (0 : Int) = 1 by decide), if_neg (show ¬ (0 : Int) = 2 by decide), if_neg (show ¬ (0 : Int) = 3 by decide), if_neg (show ¬ (0 : Int) = 4 by decide), if_neg (show ¬ (0 : Int) = 5 by decide), if_neg (show ¬ (0 : Int) = 6 by decide), if_neg (show ¬ (0 : Int) = 7 by decide)]
    refine (stepOT_over _ k).mono ?_
    rintro e w' ⟨rfl, rfl⟩
    exact ⟨rfl, fp, fun y hy => .inl hy, R, F, .refl _⟩
  obtain ⟨rfl, rfl⟩ := h1 h0
  clear h1
  obtain rfl | rfl | rfl | rfl | rfl | rfl | rfl : ln = 1 ∨ ln = 2 ∨ ln = 3 ∨ ln = 4 ∨ ln = 5 ∨ ln = 6 ∨ ln = 7 := by omega
  · rw [if_pos rfl]
    by_cases hc : wSlot (M.V adO) < 0
    · rw [if_pos hc]
      refine (stepOT_1 k (fun X hX => (readT_none hq (F.below hX) hs (k.below hX) rfl hc).mono fun e Y h => ⟨h.1, h.2.back hX⟩) fun Y A => ⟨_, _, _, _, A.k⟩).mono ?_
      rintro e w' ⟨he, hY⟩
      exact tdone R F k hq he hY rfl rfl rfl fun X kX rX => ⟨_, _, _, _, _, _, _, _, sl, kX, rX _ _ R1, hx, (by intro h; dsimp only at h; omega), ⟨(by intro h; dsimp only at h; omega), (by intro h; dsimp only at h; omega), (by intro h; dsimp only at h; omega)⟩⟩
    · rw [if_neg hc]
      refine (stepOT_1 k (fun X hX => (readT_some hq (F.below hX) hs (k.below hX) rfl hc).mono fun e Y h => ⟨h.1, h.2.back hX⟩) fun Y A => ⟨_, _, _, _, A.k⟩).mono ?_
      rintro e w' ⟨he, hY⟩
      exact tdone R F k hq he hY rfl rfl rfl fun X kX rX => ⟨_, _, _, _, _, _, _, _, sl, kX, rX _ _ R1, hx, fun _ => ⟨rfl, rfl⟩, ⟨fun _ => ⟨rfl, rfl, rfl, rfl, rfl, rfl⟩, (by intro h; dsimp only at h; omega), (by intro h; dsimp only at h; omega)⟩⟩
  · rw [if_neg (show ¬ (2 : Int) = 1 by decide), if_pos rfl]
    obtain ⟨rfl, rfl, rfl, rfl, rfl, rfl⟩ := h2 rfl
    by_cases hc : casV M.V adO hh = true
    · rw [if_pos hc]
      refine (stepOT_2 k (fun X hX => (swapU_true (by decide) (F.below hX) hs (k.below hX) u1 hc).mono fun e Y h => ⟨h.1, h.2.back hX⟩) fun Y A => ⟨_, _, _, _, A.k⟩).mono ?_
      rintro e w' ⟨he, hY⟩
      exact tdone R F k hq he hY rfl rfl rfl fun X kX rX => ⟨_, _, _, _, _, _, _, _, sl, kX, rX _ _ R1, hx, fun _ => ⟨rfl, rfl⟩, ⟨(by intro h; dsimp only at h; omega), fun _ => ⟨rfl, rfl, rfl, rfl, rfl, rfl⟩, (by intro h; dsimp only at h; omega)⟩⟩
    · rw [if_neg hc]
      have hc2 : casV M.V adO hh = false := by simpa using hc
      refine (stepOT_2 k (fun X hX => (swapU_false (by decide) (F.below hX) hs (k.below hX) u1 hc2).mono fun e Y h => ⟨h.1, h.2.back hX⟩) fun Y A => ⟨_, _, _, _, A.k⟩).mono ?_
      rintro e w' ⟨he, hY⟩
      exact tdone R F k hq he hY rfl rfl rfl fun X kX rX => ⟨_, _, _, _, _, _, _, _, sl, kX, rX _ _ R1, hx, fun _ => ⟨rfl, rfl⟩, ⟨(by intro h; dsimp only at h; omega), (by intro h; dsimp only at h; omega), (by intro h; dsimp only at h; omega)⟩⟩
  · rw [if_neg (show ¬ (3 : Int) = 1 by decide), if_neg (show ¬ (3 : Int) = 2 by decide), if_pos rfl]
    obtain ⟨rfl, rfl, rfl, rfl, rfl, rfl⟩ := h3 rfl
    have hsr := m3 (by decide)
    refine (stepOT_3 k (fun X hX => (headerT hq (F.below hX) hs (k.below hX) hsr rfl).mono fun e Y h => ⟨h.1, h.2.back hX⟩) fun Y A => ⟨_, _, _, _, A.k⟩).mono ?_
    rintro e w' ⟨he, hY⟩
    exact tdone R F k hq he hY rfl rfl rfl fun X kX rX => ⟨_, _, _, _, _, _, _, _, sl, kX, rX _ _ R1, hx, fun _ => ⟨rfl, rfl⟩, ⟨(by intro h; dsimp only at h; omega), (by intro h; dsimp only at h; omega), fun _ => ⟨rfl, rfl⟩⟩⟩
  · rw [if_neg (show ¬ (4 : Int) = 1 by decide), if_neg (show ¬ (4 : Int) = 2 by decide), if_neg (show ¬ (4 : Int) = 3 by decide), if_pos rfl]
    obtain ⟨rfl, rfl⟩ := h4 (by decide)
    have hsr := m3 (by decide)
    refine (stepOT_4 k (fun X hX => (birthT hq (F.below hX) hs (k.below hX) hsr rfl).mono fun e Y h => ⟨h.1, h.2.back hX⟩) fun Y A => ⟨_, _, _, _, A.k⟩).mono ?_
    rintro e w' ⟨he, hY⟩
    exact tdone R F k hq he hY rfl rfl rfl fun X kX rX => ⟨_, _, _, _, _, _, _, _, sl, kX, rX _ _ R1, hx, fun _ => ⟨rfl, rfl⟩, ⟨(by intro h; dsimp only at h; omega), (by intro h; dsimp only at h; omega), fun _ => ⟨rfl, rfl⟩⟩⟩
  · rw [if_neg (show ¬ (5 : Int) = 1 by decide), if_neg (show ¬ (5 : Int) = 2 by decide), if_neg (show ¬ (5 : Int) = 3 by decide), if_neg (show ¬ (5 : Int) = 4 by decide), if_pos rfl]
    obtain ⟨rfl, rfl⟩ := h4 (by decide)
    have hsr := m3 (by decide)
    refine (stepOT_5 k (fun X hX => (epochT hq (F.below hX) hs (k.below hX) hsr rfl).mono fun e Y h => ⟨h.1, h.2.back hX⟩) fun Y A => ⟨_, _, _, _, A.k⟩).mono ?_
    rintro e w' ⟨he, hY⟩
    exact tdone R F k hq he hY rfl rfl rfl fun X kX rX => ⟨_, _, _, _, _, _, _, _, sl, kX, rX _ _ R1, hx, fun _ => ⟨rfl, rfl⟩, ⟨(by intro h; dsimp only at h; omega), (by intro h; dsimp only at h; omega), fun _ => ⟨rfl, rfl⟩⟩⟩
  · rw [if_neg (show ¬ (6 : Int) = 1 by decide), if_neg (show ¬ (6 : Int) = 2 by decide), if_neg (show ¬ (6 : Int) = 3 by decide), if_neg (show ¬ (6 : Int) = 4 by decide), if_neg (show ¬ (6 : Int) = 5 by decide), if_pos rfl]
    obtain ⟨rfl, rfl⟩ := h4 (by decide)
    have hsr := m3 (by decide)
    have hl := m4 ⟨by decide, by decide⟩
    obtain ⟨A, kc, rfl⟩ : ∃ A kc, sl = .slice A got.length kc := ownsRow_form R1
    have hB2 : ∀ x, (Value.slice A got.length kc).ownBlock = some x → 1 < x := fun x h => hB x (hx x h)
    have hal : ∀ X, Below w.heap.size w X → OwnE X 0 (.slice A got.length kc) got := fun X hX => R1.below hX
    refine (stepOT_6 k (fun X hX => (eraT hq (F.below hX) hs (k.below hX) (hal X hX) hB2 hl hsr rfl).mono fun e Y h => ⟨h.1, (show ∃ v', EraP p b q 6 hh (-1) 3 es eg ek eb ec (M.V (adS es 4)) (got ++ [⟨es, eg, ek, eb, ec, M.V (adS es 4)⟩]) (.slice A got.length kc) v' (ldM M (adS es 4)) w Y from by
      obtain ⟨v', E⟩ := h.2
      refine ⟨v', E.f, E.k, E.r, ?_, (Onl.of_below hX).trans E.o⟩
      rcases E.g with g | ⟨x, g1, g2⟩
      · exact .inl g
      · exact .inr ⟨x, g1, Nat.le_trans hX.size g2⟩)⟩) (fun Y h => by
      obtain ⟨v', E⟩ := h
      exact ⟨_, _, _, _, E.k⟩)).mono ?_
    rintro e w' ⟨he, Y, ⟨v', E⟩, rfl⟩
    obtain ⟨n1, n2⟩ := E.f.ne (by decide) E.k
    have k9 : Bq q 82 (UC 7 hh (-1) 3 (TTl es eg ek eb ec (M.V (adS es 4)) v')) (Y.setCell ⟨q, 0, none⟩ (.int .i64 7)) := E.k.set 0 _ rfl
    have far : ∀ y, y ≠ q → (Y.setCell ⟨q, 0, none⟩ (.int .i64 7)).heap[y]? = Y.heap[y]? := fun y hy => Below.heap_setCell Y ⟨q, 0, none⟩ _ y hy
    have r9 : OwnE (Y.setCell ⟨q, 0, none⟩ (.int .i64 7)) 0 v' (got ++ [⟨es, eg, ek, eb, ec, M.V (adS es 4)⟩]) := E.r.same fun x hx9 => by
      obtain ⟨_, ds, kx⟩ := E.r.bq hx9
      exact far x (kx.ne E.k (by decide))
    have hin : ∀ x, (Value.slice A got.length kc).ownBlock = some x → x ∈ fp := hx
    refine ⟨he, q :: v'.ownBlock.toList, fun y hy => ?_, ⟨by simp, fun y hy => ?_, ⟨_, _, k9, rfl⟩, fun _ => rfl, (fun e => by cases e), ?_⟩, E.f.setQ n1 n2 hq 0 _, ?_⟩
    · simp only [List.mem_cons, Option.mem_toList] at hy
      rcases hy with rfl | hy
      · exact .inl R.mem
      · rcases E.g with g | ⟨x, g1, g2⟩
        · exact .inl (hin y (g ▸ hy))
        · rw [g1] at hy
          injection hy with hy
          exact .inr (hy ▸ g2)
    · simp only [List.mem_cons, Option.mem_toList] at hy
      rcases hy with rfl | hy
      · exact ⟨_, _, k9, okP_T⟩
      · obtain ⟨_, ds, kx⟩ := r9.bq hy
        exact ⟨_, _, kx, okP_E⟩
    · exact ⟨_, _, _, _, _, _, _, _, v', k9, r9, fun x h => by simp [h], fun _ => ⟨rfl, rfl⟩, ⟨(by intro h; dsimp only at h; omega), (by intro h; dsimp only at h; omega), fun _ => ⟨rfl, rfl⟩⟩⟩
    · refine (E.o.more fun x hx9 => ?_).trans (.setCell _ R.mem 0 _)
      simp only [List.mem_cons, Option.mem_toList] at hx9
      rcases hx9 with rfl | h
      · exact R.mem
      · exact hin x h
  · rw [if_neg (show ¬ (7 : Int) = 1 by decide), if_neg (show ¬ (7 : Int) = 2 by decide), if_neg (show ¬ (7 : Int) = 3 by decide), if_neg (show ¬ (7 : Int) = 4 by decide), if_neg (show ¬ (7 : Int) = 5 by decide), if_neg (show ¬ (7 : Int) = 6 by decide), if_pos rfl]
    obtain ⟨rfl, rfl⟩ := h4 (by decide)
    have hsr := m3 (by decide)
    obtain ⟨A, kc, rfl⟩ : ∃ A kc, sl = .slice A got.length kc := ownsRow_form R1
    by_cases hc : wSlot (M.V (adS es 2)) < 0
    · rw [if_neg (fun h => by omega)]
      refine (stepOT_7 k (fun X hX => (followT_none hq (F.below hX) hs (k.below hX) hsr rfl hc).mono fun e Y h => ⟨h.1, h.2.back hX⟩) fun Y A => ⟨_, _, _, _, A.k⟩).mono ?_
      rintro e w' ⟨he, hY⟩
      exact tdone R F k hq he hY rfl rfl rfl fun X kX rX => ⟨_, _, _, _, _, _, _, _, _, kX, rX _ _ R1, hx, (by intro h; dsimp only at h; omega), ⟨(by intro h; dsimp only at h; omega), (by intro h; dsimp only at h; omega), (by intro h; dsimp only at h; omega)⟩⟩
    · by_cases hl : got.length < 256
      · rw [if_pos ⟨by omega, hl⟩]
        refine (stepOT_7 k (fun X hX => (followT_on hq (F.below hX) hs (k.below hX) hsr rfl hc (by omega)).mono fun e Y h => ⟨h.1, h.2.back hX⟩) fun Y A => ⟨_, _, _, _, A.k⟩).mono ?_
        rintro e w' ⟨he, hY⟩
        exact tdone R F k hq he hY rfl rfl rfl fun X kX rX => ⟨_, _, _, _, _, _, _, _, _, kX, rX _ _ R1, hx, fun _ => ⟨rfl, rfl⟩, ⟨(by intro h; dsimp only at h; omega), fun _ => ⟨rfl, rfl, rfl, rfl, rfl, rfl⟩, (by intro h; dsimp only at h; omega)⟩⟩
      · rw [if_neg (fun h => hl h.2)]
        refine (stepOT_7 k (fun X hX => (followT_full hq (F.below hX) hs (k.below hX) hsr rfl hc (by omega)).mono fun e Y h => ⟨h.1, h.2.back hX⟩) fun Y A => ⟨_, _, _, _, A.k⟩).mono ?_
        rintro e w' ⟨he, hY⟩
        exact tdone R F k hq he hY rfl rfl rfl fun X kX rX => ⟨_, _, _, _, _, _, _, _, _, kX, rX _ _ R1, hx, (by intro h; dsimp only at h; omega), ⟨(by intro h; dsimp only at h; omega), (by intro h; dsimp only at h; omega), (by intro h; dsimp only at h; omega)⟩⟩
theorem stepO_all (hB : ∀ y ∈ fp, 1 < y) (F : VX p b M w) (hs : M.s.st < 1000000) (ok : ONum o) (hgl : o.g.length < 100000) (R : PRepO kd q fp o w) :
    Calls Tryz.prog (fnO kd) #[.pointer (some ⟨q, 0, none⟩), .pointer (some ⟨p, 0, none⟩)] w fun e w' => e = .returned (.bool ((oX o M).1.ln == 0)) ∧ ∃ fp', (∀ y ∈ fp', y ∈ fp ∨ w.heap.size ≤ y) ∧ PRepO kd q fp' (oX o M).1 w' ∧ VX p b (oX o M).2 w' ∧ Onl p b fp w w' := by
  cases kd
  · exact give_step (hB q R.mem) F hs ok hgl R
  · exact take_step hB F hs ok R
theorem newGive_all {A : Option Addr} {n c : Nat} {g : List EP} (h : SeeE w (.slice A n c) g) (hok : ∀ e ∈ g, e.ok) (hl : g.length < 100000) :
    Calls Tryz.prog 6 #[.slice A n c] w fun e w' => ∃ q fp, e = .returned (.pointer (some ⟨q, 0, none⟩)) ∧ (∀ y ∈ fp, w.heap.size ≤ y) ∧ PRepO false q fp (newG g) w' ∧ Below w.heap.size w w' := by
  have _ := hok
  have hn := h.len
  by_cases hm : mayE g
  · have h0 : g.length ≠ 0 := fun e => hm.1 (List.length_eq_zero_iff.1 e)
    obtain ⟨l1, hl1⟩ : ∃ l1, n = l1 + 1 := ⟨n - 1, by omega⟩
    refine (newGive_good h hl1 (by omega) hm).mono ?_
    rintro e w' ⟨q, y, rfl, hq, hy, k, r, hb⟩
    subst hn
    refine ⟨q, [q, y], rfl, by simp [hq, hy], ⟨by simp, fun z hz => ?_, ⟨_, _, k, rfl⟩, fun e => (by cases e), fun _ => ⟨rfl, fun _ => hm.1⟩, .inr ⟨?_, y, g.length, 0, by simp, ?_, r, ?_, ?_⟩⟩, hb⟩
    · simp only [List.mem_cons, List.not_mem_nil, or_false] at hz
      rcases hz with rfl | rfl
      · exact ⟨_, _, k, okP_G⟩
      · exact ⟨_, _, r, by decide⟩
    · simp only [newG, if_pos hm]
      split <;> decide
    · simp only [newG, if_pos hm]
      by_cases h1 : g.length = 1
      · rw [if_pos h1]
        rw [if_pos (by omega)] at k
        exact k
      · rw [if_neg h1]
        rw [if_neg (by omega)] at k
        exact k
    · simp only [newG, if_pos hm]
      intro h; split at h <;> cases h
    · simp only [newG, if_pos hm]
      intro h
      split at h
      · omega
      · exact absurd rfl h
  · refine (newGive_bad h (by omega) hm).mono ?_
    rintro e w' ⟨q, rfl, hq, k, hb⟩
    have e0 : (newG g).ln = 0 := by simp [newG, hm]
    refine ⟨q, [q], rfl, by simp [hq], ⟨by simp, fun z hz => ?_, ⟨_, _, k, rfl⟩, fun e => (by cases e), fun _ => ⟨rfl, fun h => absurd e0 h⟩, .inl ⟨e0, _, _, _, _, k⟩⟩, hb⟩
    simp only [List.mem_cons, List.not_mem_nil, or_false] at hz
    subst hz
    exact ⟨_, _, k, okP_G⟩
theorem newTake_all (w : World) :
    Calls Tryz.prog 10 #[] w fun e w' => ∃ q fp, e = .returned (.pointer (some ⟨q, 0, none⟩)) ∧ (∀ y ∈ fp, w.heap.size ≤ y) ∧ PRepO true q fp newT w' ∧ Below w.heap.size w w' := by
  refine (newTake_raw w).mono ?_
  rintro e w' ⟨q, rfl, hq, k, hb⟩
  refine ⟨q, [q], rfl, by simp [hq], ⟨by simp, fun z hz => ?_, ⟨_, _, k, rfl⟩, fun _ => rfl, (fun e => by cases e), ⟨_, _, _, _, _, _, _, _, _, k, OwnE.nil _ _, (fun x h => by cases h), fun _ => ⟨rfl, rfl⟩, ⟨(by intro h; simp [newT] at h), (by intro h; simp [newT] at h), (by intro h; simp [newT] at h)⟩⟩⟩, hb⟩
  simp only [List.mem_cons, List.not_mem_nil, or_false] at hz
  subst hz
  exact ⟨_, _, k, okP_T⟩
theorem nxG_zero {l : Int} (h : 0 ≤ l ∧ l ≤ 4) (hl : l ≠ 0) : (nxG l == 0) = (l == 0) := by
  obtain rfl | rfl | rfl | rfl : l = 1 ∨ l = 2 ∨ l = 3 ∨ l = 4 := by omega
  all_goals decide
theorem overG_all (ok : ONum o) (R : PRepO false q fp o w) : Calls Tryz.prog 27 #[.pointer (some ⟨q, 0, none⟩)] w fun e w' => e = .returned (.bool (o.ln == 0)) ∧ w' = w := by
  have hr : GRep q fp o w := R.rep
  obtain ⟨_, hgn⟩ := R.kf rfl
  rcases hr with ⟨h0, hd, tq, th, tl, k⟩ | ⟨h0, y, cp, rs, hy, k, r, h1, h2⟩
  · rw [h0]
    exact overOG k
  · have := nxG_zero ⟨ok.ln.1, ((ok.gv (hgn h0)).2 h0).2.1⟩ h0
    rw [← this]
    exact overOG k
theorem overT_all (ok : ONum o) (R : PRepO true q fp o w) : Calls Tryz.prog 29 #[.pointer (some ⟨q, 0, none⟩)] w fun e w' => e = .returned (.bool (o.ln == 0)) ∧ w' = w := by
  have hr : TRep q fp o w := R.rep
  have _ := ok
  obtain ⟨tq, th, es, eg, ek, eb, ec, ed, sl, k, _⟩ := hr
  exact overOT k
/-- What was taken, in new memory; nothing ahead of the end. -/
theorem gotT_all (ok : ONum o) (R : PRepO true q fp o w) : Calls Tryz.prog 30 #[.pointer (some ⟨q, 0, none⟩)] w fun e w' => ∃ A k xs, xs = (if o.ln = 0 then o.got else []) ∧ e = .returned (.slice A xs.length k) ∧ OwnE w' w.heap.size (.slice A xs.length k) xs ∧ Below w.heap.size w w' := by
  have hr : TRep q fp o w := R.rep
  have hl := (ok.tk (R.kt rfl)).2.1
  obtain ⟨tq, th, es, eg, ek, eb, ec, ed, sl, k, R1, _⟩ := hr
  by_cases h0 : o.ln = 0
  · rw [if_pos h0]
    rw [h0] at k
    obtain ⟨A, kc, rfl⟩ : ∃ A kc, sl = .slice A o.got.length kc := ownsRow_form R1
    by_cases hz : o.got.length = 0
    · have e0 : o.got = [] := List.length_eq_zero_iff.1 hz
      rw [e0] at k ⊢
      refine (gotT_empty k).mono ?_
      rintro e w' ⟨rfl, rfl⟩
      exact ⟨none, 0, [], rfl, rfl, OwnE.nil _ _, Below.refl _ _⟩
    · refine (gotT_some k R1 rfl (by omega) hl).mono ?_
      rintro e w' ⟨A', k', rfl, r, hb⟩
      exact ⟨A', k', _, rfl, rfl, r, hb⟩
  · rw [if_neg h0]
    refine (gotT_live k h0).mono ?_
    rintro e w' ⟨rfl, rfl⟩
    exact ⟨none, 0, [], rfl, rfl, OwnE.nil _ _, Below.refl _ _⟩
/-- Of one that is over, a step is nothing. -/
theorem stepO_over (kd : Bool) (R : PRepO kd q fp o w) (h0 : o.ln = 0) (a : Value) : Calls Tryz.prog (fnO kd) #[.pointer (some ⟨q, 0, none⟩), a] w fun e w' => e = .returned (.bool true) ∧ Below w.heap.size w w' := by
  cases kd
  · have hr : GRep q fp o w := R.rep
    rcases hr with ⟨_, hd, tq, th, tl, k⟩ | ⟨h1, _⟩
    · refine (stepOG_over a k).mono ?_
      rintro e w' ⟨rfl, rfl⟩
      exact ⟨rfl, Below.refl _ _⟩
    · exact absurd h0 h1
  · have hr : TRep q fp o w := R.rep
    obtain ⟨tq, th, es, eg, ek, eb, ec, ed, sl, k, _⟩ := hr
    rw [h0] at k
    refine (stepOT_over a k).mono ?_
    rintro e w' ⟨rfl, rfl⟩
    exact ⟨rfl, Below.refl _ _⟩
theorem stepO_nil (kd : Bool) (a : Value) (w : World) : Calls Tryz.prog (fnO kd) #[.pointer none, a] w fun e w' => e = .returned (.bool true) ∧ Below w.heap.size w w' := by
  cases kd
  · refine Calls.mono (stepOG_nil a w) ?_
    rintro e w' ⟨rfl, rfl⟩
    exact ⟨rfl, Below.refl _ _⟩
  · refine Calls.mono (stepOT_nil a w) ?_
    rintro e w' ⟨rfl, rfl⟩
    exact ⟨rfl, Below.refl _ _⟩
theorem overG_nil (w : World) : Calls Tryz.prog 27 #[.pointer none] w fun e w' => e = .returned (.bool true) ∧ Below w.heap.size w w' := by
  refine (overOG_nil w).mono ?_
  rintro e w' ⟨rfl, rfl⟩
  exact ⟨rfl, Below.refl _ _⟩
theorem overT_nil (w : World) : Calls Tryz.prog 29 #[.pointer none] w fun e w' => e = .returned (.bool true) ∧ Below w.heap.size w w' := by
  refine (overOT_nil w).mono ?_
  rintro e w' ⟨rfl, rfl⟩
  exact ⟨rfl, Below.refl _ _⟩
theorem gotT_nil (w : World) : Calls Tryz.prog 30 #[.pointer none] w fun e w' => ∃ A k, e = .returned (.slice A 0 k) ∧ Below w.heap.size w w' := by
  refine (gotT_none w).mono ?_
  rintro e w' ⟨rfl, rfl⟩
  exact ⟨none, 0, rfl, Below.refl _ _⟩
/-- The zeros of both. -/
noncomputable def zeroCs (t : TypeId) : Array Value := match (Tryz.prog.info? t).bind (·.zero) with | some v => v.cells | none => #[]
theorem zeroG_eq : zeroCs 77 = (UC 0 0 0 0 (GTl (.slice none 0 0) 0 0)).toArray := by kernel_rfl
theorem zeroT_eq : zeroCs 82 = (UC 0 0 0 0 (TTl 0 0 false 0 0 0 (.slice none 0 0))).toArray := by kernel_rfl
theorem zeroG (k : w.heap[q]? = some (.cells (zeroCs 77) 77 (0, 0))) : PRepO false q [q] (newG []) w := by
  rw [zeroG_eq] at k
  have k : Bq q 77 (UC 0 0 0 0 (GTl (.slice none 0 0) 0 0)) w := k
  have e0 : (newG []).ln = 0 := by simp [newG, mayE]
  refine ⟨by simp, fun z hz => ?_, ⟨_, _, k, rfl⟩, (fun e => by cases e), fun _ => ⟨rfl, fun h => absurd e0 h⟩, .inl ⟨e0, _, _, _, _, k⟩⟩
  simp only [List.mem_cons, List.not_mem_nil, or_false] at hz
  subst hz
  exact ⟨_, _, k, okP_G⟩
theorem zeroT (k : w.heap[q]? = some (.cells (zeroCs 82) 82 (0, 0))) : PRepO true q [q] ⟨0, [], [], 0, 0, 0, EP.zero⟩ w := by
  rw [zeroT_eq] at k
  have k : Bq q 82 (UC 0 0 0 0 (TTl 0 0 false 0 0 0 (.slice none 0 0))) w := k
  refine ⟨by simp, fun z hz => ?_, ⟨_, _, k, rfl⟩, fun _ => rfl, (fun e => by cases e), ⟨_, _, _, _, _, _, _, _, _, k, OwnE.nil _ _, (fun x h => by cases h), fun h => absurd rfl h, ⟨(by intro h; dsimp only at h; omega), (by intro h; dsimp only at h; omega), (by intro h; dsimp only at h; omega)⟩⟩⟩
  simp only [List.mem_cons, List.not_mem_nil, or_false] at hz
  subst hz
  exact ⟨_, _, k, okP_T⟩
end
end Go.Proofs.YtjpanofkikfeoaaGreatDoor
