/-
  What holds between two acts, read by the law: what each has got is live; when none is under way, each slot is live, in the list, parked, or gone; condition: all lies as it says.
  How the law AllocsOnce begins; a segment's turn and a ref got, between two acts; condition: all lies as it says.
-/
import Derived.Test.YtlcbinckbkdgdaaDoorOA6
import Derived.Test.YtlcbinckbkdgdaaDoorOA7
namespace Go.Proofs.YtlcbinckbkdgdaaDoor
open Go.RowKit Go.Maps

section
variable {W w w' : World} {p b G H n N c c' k : Nat} {mo : Int} {lst : Int → Int} {Q Q' : (Nat → TA) → List Int → MA → Prop} {th : Nat → TA} {S R : List Int} {T : Int} {A : MA}
theorem helds_count (z : Int) (h5 : th 5 = ⟨[], .no⟩) : ((heldsA th 5).map (·.1)).count z + (pendA (th 0).op ++ pendA (th 1).op ++ pendA (th 2).op ++ pendA (th 3).op ++ pendA (th 4).op).count z = sum6 fun j => (ownA (th j)).count z := by
  simp only [heldsA, sum6, ownA, List.map_append, List.count_append, List.nil_append, h5, pendA, List.map_nil, List.append_nil, List.count_nil]
  omega
theorem InvA.helds_one (I : InvA N mo th S R T lst A) (h5 : th 5 = ⟨[], .no⟩) (z : Int) : ((heldsA th 5).map (·.1)).count z ≤ 1 := by
  have h1 := I.one z
  have h2 := helds_count z h5
  unfold cntA at h1
  omega
theorem InvA.helds_nodup (I : InvA N mo th S R T lst A) (h5 : th 5 = ⟨[], .no⟩) : ((heldsA th 5).map (·.1)).Nodup := by
  rw [List.nodup_iff_count]
  exact I.helds_one h5
theorem InvA.helds_mem (I : InvA N mo th S R T lst A) {i : Nat} (hi : i < 6) {x : Int × Int} (hx : x ∈ (th i).held) : (0 ≤ x.1 ∧ x.1 < N) ∧ A.hdr x.1 = headerW 1 x.2 ∧ lst x.1 = x.2 + 1 ∧ 0 ≤ x.2 ∧ x.2 ≤ mo :=
  ⟨I.owned hi (by unfold ownA; exact List.mem_append_left _ (List.mem_map.2 ⟨x, hx, rfl⟩)), I.held i hi x hx⟩
theorem mem_helds {x : Int × Int} : ∀ {m : Nat}, x ∈ heldsA th m → ∃ i, i < m ∧ x ∈ (th i).held
  | 0, h => by simp [heldsA] at h
  | m + 1, h => by
    rcases List.mem_append.1 h with h | h
    · obtain ⟨i, hi, hx⟩ := mem_helds h
      exact ⟨i, by omega, hx⟩
    · exact ⟨m, by omega, h⟩
theorem InvA.helds_len (I : InvA N mo th S R T lst A) (h5 : th 5 = ⟨[], .no⟩) : (heldsA th 5).length ≤ N := by
  have := fit_le N ((heldsA th 5).map (·.1)) (I.helds_nodup h5) (fun z hz => by
    obtain ⟨x, hx, rfl⟩ := List.mem_map.1 hz
    obtain ⟨i, hi, hx⟩ := mem_helds hx
    exact (I.helds_mem (by omega) hx).1)
  simpa using this
/-- Both live looks. -/
theorem Run.live (h : Run W p b G H n c mo lst Q w) (hB : 1 < W.heap.size) (hn : n ≤ 3) (hmo : mo < 4294967296) (hc : c < 800000) :
    Calls Tryd.prog 23 #[.slice (some ⟨G, 0, none⟩) 5 5, .pointer (some ⟨p, 0, none⟩)] w fun e w' => e = .returned (.bool true) ∧ Run W p b G H n (c + 24) mo lst Q w' := by
  obtain ⟨th, S, R, T, Mp, ob, ⟨ly, M, hM, hst, TWh, low⟩, hob, I, hT, h5, hQ⟩ := h
  subst hM
  refine (live_any (n := 24) TWh hB (by omega) (fun i hi x hx => ?_) (I.helds_nodup h5) (Nat.le_trans (I.helds_len h5) (by omega)) (by decide)).mono ?_
  · obtain ⟨h1, h2, _, h3, h4⟩ := I.helds_mem (show i < 6 by omega) hx
    exact ⟨⟨h1.1, by omega⟩, h2, h3, by omega⟩
  · rintro e w' ⟨rfl, M', e1, e2, F, o⟩
    exact ⟨rfl, th, S, R, T, _, ob, ⟨ly, M', by rw [e1], by push_cast at e2 ⊢; omega, TWh.onl F o (by simp) (by simp) (by simp), low.onl (Nat.le_refl _) (TWh.tl (k := 0) (by decide)) o (by simp)⟩, hob, I, by push_cast; omega, h5, hQ⟩
theorem stW_hdr {s g : Int} {w : Int} (h : w = headerW s g) (h0 : 0 ≤ s) (h1 : s ≤ 4) (g0 : 0 ≤ g) (g1 : g < 4294967296) : stW w = s := by
  rw [h, stW_header s g h0 h1 g0 g1]
theorem rsum8 (R : List Int) (g : Nat) : (rsum R (8 * g) 8 : Int) = (R.count (8 * (g : Int)) + R.count (8 * (g : Int) + 1) + R.count (8 * (g : Int) + 2) + R.count (8 * (g : Int) + 3) + R.count (8 * (g : Int) + 4) + R.count (8 * (g : Int) + 5) + R.count (8 * (g : Int) + 6) + R.count (8 * (g : Int) + 7) : Nat) := by
  have e : ∀ k : Nat, ((8 * g + k : Nat) : Int) = 8 * (g : Int) + (k : Int) := fun k => by push_cast; rfl
  show ((0 + R.count ((8 * g + 0 : Nat) : Int) + R.count ((8 * g + 1 : Nat) : Int) + R.count ((8 * g + 2 : Nat) : Int) + R.count ((8 * g + 3 : Nat) : Int) + R.count ((8 * g + 4 : Nat) : Int) + R.count ((8 * g + 5 : Nat) : Int) + R.count ((8 * g + 6 : Nat) : Int) + R.count ((8 * g + 7 : Nat) : Int) : Nat) : Int) = _
  rw [e 0, e 1, e 2, e 3, e 4, e 5, e 6, e 7, Nat.zero_add]
  simp only [show ((0 : Nat) : Int) = 0 from rfl, Int.add_zero]
  rfl
theorem InvA.whq (I : InvA (8 * n) mo th S R T lst A) (h5 : th 5 = ⟨[], .no⟩) (hn : n ≤ 3) (hmo : mo < 4294967296) (hno : ∀ k, k < 6 → (th k).op = .no) : WhQ n th S R A := by
  have hnd := I.helds_nodup h5
  refine ⟨hn, fun i hi x hx => ?_, hnd, Nat.le_trans (I.helds_len h5) (by omega), Nat.le_trans I.lenS (by omega), fun z hz => ?_, fun z hz => ?_, fun z hz => ?_, fun z => ⟨Nat.le_trans (I.helds_one h5 z) (by decide), ?_⟩, fun g hg => ?_⟩
  · obtain ⟨h1, h2, _, h3, h4⟩ := I.helds_mem (show i < 6 by omega) hx
    exact ⟨⟨h1.1, by omega⟩, h2, h3, by omega⟩
  · have h1 := I.inS hz
    obtain ⟨g, e, _, g0, g1⟩ := I.sn z hz
    exact ⟨⟨h1.1, by omega⟩, stW_hdr e (by decide) (by decide) g0 (by omega)⟩
  · rcases I.whole hmo hno (z := (z : Int)) ⟨by omega, by push_cast; omega⟩ with ⟨_, h2, h3⟩ | ⟨h1, h2⟩ | ⟨h1, h2, _⟩
    · exact ⟨_, rfl, by omega, by omega, fun h => by omega, fun _ => h3⟩
    · exact ⟨_, rfl, by omega, by omega, fun _ => h1, fun h => by omega⟩
    · exact ⟨_, rfl, by omega, by omega, fun h => by omega, fun _ => h1⟩
  · have h1 := I.cnt (z : Int)
    rw [if_pos ⟨by omega, by push_cast; omega⟩] at h1
    have h2 := helds_count (z : Int) h5
    unfold cntA at h1
    rw [← h2] at h1
    rw [hno 0 (by decide), hno 1 (by decide), hno 2 (by decide), hno 3 (by decide), hno 4 (by decide)] at h1
    simp only [pendA, List.append_nil, List.count_nil, Nat.add_zero] at h1
    omega
  · have := I.one z
    unfold cntA at this
    omega
  · rw [rsum8]
    exact I.told hno g
end
end Go.Proofs.YtlcbinckbkdgdaaDoor
namespace Go.Proofs.YtlcbinckbkdgdaaDoor
open Go.RowKit Go.Maps

def zT : Value := .agg #[.slice none 0 0, .pointer none, .pointer none]
theorem info_th : (Tryd.prog.info? 63).map (fun i => (i.zero, i.size, i.bytes)) = some (some zT, 3, 40) := by kernel_rfl
theorem made_T : (madeCells zT.cells (5 * 3)).toList = (List.range 15).map fun i => if i % 3 = 0 then Value.slice none 0 0 else .pointer none := by kernel_rfl
def th0 : Nat → TA := fun _ => ⟨[], .no⟩
theorem tw0 {p b G B : Nat} {M : MV} {w : World} (F : VX p b M w) (hp : B ≤ p) (hb : B ≤ b) (hG : B ≤ G) {base : Nat}
    (ho : w.ownsRow base 63 3 (.slice (some ⟨G, 0, none⟩) 5 5) 5 (madeCells zT.cells (5 * 3)).toList) : TW B p b G (fun _ => ⟨.slice none 0 0, .pointer none, .pointer none, []⟩) th0 M w := by
  refine ⟨F, hp, hb, hG, ?_, fun k _ => HRow.nil _ _, fun k _ => ⟨rfl, rfl, rfl⟩, fun k _ x hx => by simp at hx, fun j k _ _ _ g hg => by simp [hblk] at hg, fun j k _ _ _ x hx => by simp at hx⟩
  rw [made_T] at ho
  rcases ho.2 with ⟨e, _⟩ | ⟨g, cap, cur, e, _, hh, _, _, hs, ht⟩
  · cases e
  · injection e with e1 _ e2
    injection e1 with e1
    injection e1 with e1
    subst e1 e2
    have hc : cur.toList = (List.range 15).map fun i => if i % 3 = 0 then Value.slice none 0 0 else .pointer none := by
      rw [← ht, List.take_of_length_le (by simp [hs])]
    have hx : ∀ i, i < 15 → cur[i]? = some (if i % 3 = 0 then Value.slice none 0 0 else .pointer none) := fun i hi => by
      rw [← Array.getElem?_toList, hc, List.getElem?_map, List.getElem?_range hi]
      rfl
    refine ⟨cur, hh, hs, fun k hk => ⟨?_, ?_, ?_⟩⟩
    · rw [hx _ (by omega), if_pos (by omega)]
    · rw [hx _ (by omega), if_neg (by omega)]
    · rw [hx _ (by omega), if_neg (by omega)]
theorem run0 {W w1 w2 w3 : World} {p b n : Nat} {M : MV} {mo : Int} {base : Nat} (hB : Beg (8 * n) n M) (F : VX p b M w1) (low : Below W.heap.size W w1) (hp : W.heap.size ≤ p) (hb : W.heap.size ≤ b) (hn : n ≤ 3) (hmo : 0 ≤ mo)
    (ho : w2.ownsRow base 63 3 (.slice (some ⟨w1.heap.size, 0, none⟩) 5 5) 5 (madeCells zT.cells (5 * 3)).toList) (hg : w1.grownBy w2 none)
    (hi : w3.ownsRow w2.heap.size 3 1 (.slice (some ⟨w2.heap.size, 0, none⟩) (8 * n) (8 * n)) (8 * n) (madeCells (Value.int .i64 0).cells (8 * n * 1)).toList) (hg2 : w2.grownBy w3 none) :
    Run W p b w1.heap.size w2.heap.size n 200 mo (fun _ => 0) (fun _ _ _ => True) w3 := by
  have hb1 : Below w1.heap.size w1 w2 := (Below.refl _ _).grown hg (Nat.le_refl _) (fun k hk => by cases hk)
  have hb2 : Below w2.heap.size w2 w3 := (Below.refl _ _).grown hg2 (Nat.le_refl _) (fun k hk => by cases hk)
  have W2 := tw0 (B := W.heap.size) (F.below hb1) hp hb low.size ho
  have hl2 : Below W.heap.size W w2 := low.trans (hb1.mono low.size)
  rcases hi.2 with ⟨e, _⟩ | ⟨g, cap, cur, e, _, hh, _, _, hs, ht⟩
  · cases e
  · injection e with e1 _ e2
    injection e1 with e1
    injection e1 with e1
    subst e1 e2
    refine ⟨th0, downS (8 * n), [], ((8 * n : Nat) : Int), maV M.V, cur, ⟨_, M, rfl, by have := hB.st; omega, W2.below hb2, ⟨hl2.trans (hb2.mono hl2.size), hh⟩⟩, ⟨by rw [hs, Nat.mul_one], fun j hj => ?_⟩, ?_, by omega, rfl, trivial⟩
    · rw [Nat.mul_one, show (Value.int .i64 0).cells = #[Value.int .i64 0] from rfl, toList_madeCells_one, List.take_of_length_le (by rw [Array.length_toList, hs, Nat.mul_one]; exact Nat.le_refl _)] at ht
      rw [← Array.getElem?_toList, ht, List.getElem?_replicate, if_pos hj]
    · have := InvA.start (n := 8 * n) (th := th0) hB.stk (fun z => down_count (8 * n) z) hB.hdr hB.spk (fun _ _ => rfl) hmo
      exact_mod_cast this
section
variable {W w w' : World} {p b G H n c c' k : Nat} {mo : Int} {lst lst' : Int → Int} {Q Q' : (Nat → TA) → List Int → MA → Prop}
theorem Run.drain (h : Run W p b G H n c mo lst (fun _ _ _ => True) w) (hn : n ≤ 3) (g : Nat) (hg : g < n) (d : Bool) (hc : c < 800000) :
    Calls Tryd.prog 21 #[.pointer (some ⟨p, 0, none⟩), .int .i64 (g : Int), .bool d] w fun e w' => e = .returned (.tuple #[]) ∧ Run W p b G H n (c + 1) mo lst (fun _ _ _ => True) w' := by
  obtain ⟨th, S, R, T, Mp, ob, ⟨ly, M, hM, hst, TWh, low⟩, hob, I, hT, h5, hQ⟩ := h
  subst hM
  refine (drain_any d TWh.fm (by omega) (g := (g : Int)) ⟨by omega, by omega⟩).mono ?_
  rintro e w' ⟨rfl, M', e1, e2, F, o⟩
  exact ⟨rfl, th, S, R, T, _, ob, ⟨ly, M', e1, by push_cast; omega, TWh.onl F o (by simp) (by simp) (by simp), low.onl (Nat.le_refl _) (TWh.tl (k := 0) (by decide)) o (by simp)⟩, hob, I.drain (g : Int) d, by push_cast; omega, h5, trivial⟩
/-- A row of the law's own is written. -/
theorem TW.int {B : Nat} {ly : Nat → LY} {th : Nat → TA} {M : MV} {cs : List Value} (W : TW B p b G ly th M w) (h1 : 1 < H) (k0 : Bq H 3 cs w) (i : Nat) (v : Value) : TW B p b G ly th M (w.setCell ⟨H, i, none⟩ v) := by
  obtain ⟨n1, n2⟩ := W.fm.ne (by decide) k0
  obtain ⟨gs, gb⟩ := (W.tl (k := 0) (by decide)).gb
  refine W.onl (E := [H]) (W.fm.setQ n1 n2 h1 i v) (Onl.setCell w (by simp) i v) (fun e => gb.ne k0 (by decide) (List.mem_singleton.1 e)) (fun j hj g hg e => ?_) (fun j hj x hx e => (W.own j hj x hx).neI k0 (List.mem_singleton.1 e))
  obtain ⟨ds, kb⟩ := (W.row j hj).bq hg
  exact kb.ne k0 (by decide) (List.mem_singleton.1 e)
/-- The row of what comes next is brought up to date. -/
theorem RunG.put {s g : Int} (h : RunG W p b G H n c mo lst (lstG lst [(s, g)]) Q w) (h1 : 1 < H) (hH : W.heap.size ≤ H) {z : Nat} (hz : s = (z : Int)) (hzn : z < 8 * n) : Run W p b G H n c mo (lstG lst [(s, g)]) Q (w.setCell ⟨H, z, none⟩ (.int .i64 (g + 1))) := by
  obtain ⟨th, S, R, T, Mp, ob, ⟨ly, M, hM, hst, TWh, low⟩, ⟨ho1, ho2⟩, I, hT, h5, hQ⟩ := h
  refine ⟨th, S, R, T, Mp, _, ⟨ly, M, hM, hst, TWh.int h1 low.bq z (.int .i64 (g + 1)), ⟨low.low.setCell (p := ⟨H, z, none⟩) hH _, setCell_blk low.keep z (.int .i64 (g + 1))⟩⟩, ⟨by simpa using ho1, fun j hj => ?_⟩, I, hT, h5, hQ⟩
  rw [Array.getElem?_setIfInBounds]
  by_cases e : z = j
  · subst e
    rw [if_pos rfl, if_pos (by omega)]
    simp [lstG, hz]
  · rw [if_neg e, ho2 j hj]
    have : ¬ ((j : Int) = (z : Int)) := by omega
    simp [lstG, hz, this]
theorem RunG.idle (h : RunG W p b G H n c mo lst (lstG lst []) Q w) : Run W p b G H n c mo lst Q w := h
theorem RunG.last (h : RunG W p b G H n c mo lst lst' Q w) {z : Nat} (hz : z < 8 * n) : w.cell? ⟨H, z, none⟩ = some (.int .i64 (lst z)) ∧ ∀ i, w.frozen? ⟨H, i, none⟩ = false := by
  obtain ⟨th, S, R, T, Mp, ob, ⟨ly, M, hM, hst, TWh, low⟩, ⟨ho1, ho2⟩, _⟩ := h
  exact ⟨(cell_of_row w H z ob 3 (0, 0) low.keep).trans (ho2 z hz), fun i => by simp [World.frozen?, low.keep]⟩
theorem RunG.below (h : RunG W p b G H n c mo lst lst' Q w) (hb : Below w.heap.size w w') : RunG W p b G H n c mo lst lst' Q w' := by
  obtain ⟨th, S, R, T, Mp, ob, h1, h2⟩ := h
  exact ⟨th, S, R, T, Mp, ob, h1.below (Nat.le_refl _) hb, h2⟩
/-- What a thread has, as the law reads it. -/
theorem Run.held (h : Run W p b G H n c mo lst Q w) (hn : n ≤ 3) {i : Nat} (hi : i < 5) : ∃ (A : Option Addr) (m cp : Nat), w.cell? ⟨G, i * 3, none⟩ = some (.slice A m cp) ∧ m ≤ 24 ∧ ∀ j, j < m → ∃ g off s u, A = some ⟨g, off, none⟩ ∧ w.cell? ⟨g, off + j * 3, none⟩ = some (.int .i64 s) ∧ w.cell? ⟨g, off + j * 3 + 1, none⟩ = some (.int .u32 u) ∧ w.cell? ⟨g, off + j * 3 + 2, none⟩ = some (.bool false) ∧ lst s = u + 1 := by
  obtain ⟨th, S, R, T, Mp, ob, ⟨ly, M, hM, hst, TWh, low⟩, hob, I, hT, h5, hQ⟩ := h
  have hr := TWh.row i hi
  obtain ⟨A, cp, e, _⟩ := id hr
  have hc := (TWh.tl hi).cells.1
  rw [e] at hc hr
  rw [Nat.mul_comm] at hc
  refine ⟨A, _, cp, hc, Nat.le_trans (I.held_len (show i < 6 by omega)) (by omega), fun j hj => ?_⟩
  obtain ⟨_, g, off, rfl, _, y0, y1, y2⟩ := hr.at_ hj
  rw [Nat.mul_comm 3 j] at y0 y1 y2
  exact ⟨g, off, _, _, rfl, y0, y1, y2, (I.helds_mem (show i < 6 by omega) (by rw [List.getD_eq_getElem?_getD, List.getElem?_eq_getElem hj]; simp)).2.2.1⟩
/-- .. and what it has under way. -/
theorem Run.ptr (h : Run W p b G H n c mo lst Q w) {i : Nat} (hi : i < 5) : ∃ th S Mp, Q th S Mp ∧ ∃ va vf, w.cell? ⟨G, i * 3 + 1, none⟩ = some va ∧ w.cell? ⟨G, i * 3 + 2, none⟩ = some vf ∧ (((th i).op = .no ∧ va = .pointer none ∧ vf = .pointer none) ∨ (th i).op ≠ .no ∧ ((∃ q, va = .pointer (some ⟨q, 0, none⟩) ∧ vf = .pointer none) ∨ ∃ q, va = .pointer none ∧ vf = .pointer (some ⟨q, 0, none⟩))) := by
  obtain ⟨th, S, R, T, Mp, ob, ⟨ly, M, hM, hst, TWh, low⟩, hob, I, hT, h5, hQ⟩ := h
  have hc := (TWh.tl hi).cells
  have ho := TWh.op i hi
  refine ⟨th, S, Mp, hQ, (ly i).a, (ly i).f, by rw [Nat.mul_comm]; exact hc.2.1, by rw [Nat.mul_comm]; exact hc.2.2.1, ?_⟩
  cases hop : (th i).op with
  | no =>
    rw [hop] at ho
    exact .inl ⟨rfl, ho.2.1, ho.2.2⟩
  | al o =>
    rw [hop] at ho
    obtain ⟨ox, q, r, r1, _, _, _, _, _, e1, e2⟩ := ho
    exact .inr ⟨(fun h => by cases h), .inl ⟨q, e1, e2⟩⟩
  | fr o =>
    rw [hop] at ho
    obtain ⟨ox, q, r, r1, _, _, _, _, _, e1, e2⟩ := ho
    exact .inr ⟨(fun h => by cases h), .inr ⟨q, e1, e2⟩⟩
end
end Go.Proofs.YtlcbinckbkdgdaaDoor
