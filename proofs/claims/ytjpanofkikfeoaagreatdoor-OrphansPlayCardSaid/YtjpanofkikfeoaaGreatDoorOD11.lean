/-
  The law's helper spoil turns nothing but the row that it is handed; what OrphansPlay asks of a pair of memories; new operations in their box; a step of whichever; condition: all lies as it says.
-/
import Derived.Test.YtjpanofkikfeoaaGreatDoorOD7
import Derived.Test.YtjpanofkikfeoaaGreatDoorOE2
import Derived.Test.YtjpanofkikfeoaaGreatDoorD4w
import Derived.Test.YtjpanofkikfeoaaGreatDoorD6
import Derived.Maps.AppendAt
namespace Go.Proofs.YtjpanofkikfeoaaGreatDoor
open Go.RowKit Go.Maps

section
variable {w : World} {B : Nat} {xs : List EP}
set_option maxRecDepth 100000 in
set_option maxHeartbeats 4000000 in
theorem spoil_row {g n k : Nat} {cur : Array Value} (hg : w.heap[g]? = some (.cells cur 62 (0, 0))) (hs : cur.size = k * 6) (_hn : n ≤ k) (hk : k ≤ 9223372036854775807) : Calls Tryz.prog 9 #[.slice (some ⟨g, 0, none⟩) n k] w fun e w' => e = .returned (.tuple #[]) ∧ Onl g g [g] w w' := by
  have HG := Lib.hid (show Onl g g [g] w w ∧ ∃ cur : Array Value, w.heap[g]? = some (.cells cur 62 (0, 0)) ∧ cur.size = k * 6 from ⟨.refl _, cur, hg, hs⟩)
  have hk0 : (0 : Int) ≤ (k : Int) := by omega
  have hk1 : (k : Int) ≤ 9223372036854775807 := by omega
  clear hg hs
  go_enter Tryz.func9, Tryz.ntmps9
  go_wp2_with fail
  go_loopw [2] (fun j wr => ∃ i : Nat, i ≤ k ∧ j = .int .i64 (i : Int) ∧ Hid (Onl g g [g] w wr ∧ ∃ cur : Array Value, wr.heap[g]? = some (.cells cur 62 (0, 0)) ∧ cur.size = k * 6)) (fun j _ => k - (intOf j).toNat)
  case atStart => exact ⟨0, Nat.zero_le _, rfl, HG⟩
  case round =>
    clear HG
    obtain ⟨i, hi, rfl, hr⟩ := hrel
    obtain ⟨hb, cu, hg, hs⟩ := hr.out
    have hge : (0 : Int) ≤ (i : Int) := by omega
    by_cases hlt : i < k
    · have hlt' : (i : Int) < (k : Int) := by omega
      have hc : ∀ j, j < 6 → ∃ v, wr.cell? ⟨g, i * 6 + j, none⟩ = some v := fun j hj => ⟨cu[i * 6 + j]'(by omega), by rw [cell_of_row wr g (i * 6 + j) cu _ (0, 0) hg]; exact Array.getElem?_eq_getElem _⟩
      have hz : ∀ j, wr.frozen? ⟨g, j, none⟩ = false := fun j => by simp [World.frozen?, hg]
      obtain ⟨v0, x0⟩ := hc 0 (by decide)
      obtain ⟨v1, x1⟩ := hc 1 (by decide)
      obtain ⟨v2, x2⟩ := hc 2 (by decide)
      obtain ⟨v3, x3⟩ := hc 3 (by decide)
      obtain ⟨v4, x4⟩ := hc 4 (by decide)
      obtain ⟨v5, x5⟩ := hc 5 (by decide)
      rw [Nat.add_zero] at x0
      have z0 := hz (i * 6)
      have z1 := hz (i * 6 + 1)
      have z2 := hz (i * 6 + 2)
      have z3 := hz (i * 6 + 3)
      have z4 := hz (i * 6 + 4)
      have z5 := hz (i * 6 + 5)
      have hset : ∀ (X : World) (j : Nat) (v : Value), (Onl g g [g] w X ∧ ∃ cur : Array Value, X.heap[g]? = some (.cells cur 62 (0, 0)) ∧ cur.size = k * 6) → (Onl g g [g] w (X.setCell ⟨g, j, none⟩ v) ∧ ∃ cur : Array Value, (X.setCell ⟨g, j, none⟩ v).heap[g]? = some (.cells cur 62 (0, 0)) ∧ cur.size = k * 6) := fun X j v ⟨h1, cur, h2, h3⟩ => ⟨h1.trans (.setCell X (List.mem_singleton.2 rfl) j v), _, setCell_blk h2 j v, by simpa using h3⟩
      have HN := Lib.hid (hset _ (i * 6 + 5) (.int .u64 0) (hset _ (i * 6 + 4) (.int .u64 0) (hset _ (i * 6 + 3) (.int .u64 7777777) (hset _ (i * 6 + 2) (.bool false) (hset _ (i * 6 + 1) (.int .u32 0) (hset _ (i * 6) (.int .i64 0) hr.out))))))
      clear hc hz hset hr hb hg hs
      go_wp2_with fail
      go_roundw
      case rel => exact ⟨i + 1, by omega, by go_num, HN⟩
      case measure => simp [intOf]; omega
    · have hnl : ¬ (i : Int) < (k : Int) := by omega
      have HB := Lib.hid hb
      clear hr hb hg hs
      go_wp2_with fail
      ((try simp only [Exit.inBlock, Exit.then]); first | go_end0 | refine bodyPost_ret (results_none rfl _ _ _) rfl ?_)
      exact ⟨rfl, HB.out⟩
/-- It turns nothing but the row. -/
theorem spoil_one {v : Value} (h : OwnE w B v xs) : Calls Tryz.prog 9 #[v] w fun e w' => e = .returned (.tuple #[]) ∧ Below B w w' ∧ w.heap.size ≤ w'.heap.size ∧ ∀ z, z < w.heap.size → v.ownBlock ≠ some z → w'.heap[z]? = w.heap[z]? := by
  obtain ⟨_, h⟩ := h
  rcases h with ⟨rfl, h0⟩ | ⟨g, cap, cur, rfl, hb, hg, hc, hm, hs, ht⟩
  · refine spoil_none.mono ?_
    rintro e w' ⟨he, rfl⟩
    exact ⟨he, Below.refl _ _, Nat.le_refl _, fun _ _ _ => rfl⟩
  · have hlt : g < w.heap.size := (Array.getElem?_eq_some_iff.1 hg).1
    refine (spoil_row hg hs hc (by unfold maxLen at hm; exact hm)).mono ?_
    rintro e w' ⟨he, o⟩
    exact ⟨he, o.below hb hb (by simpa using hb) (by omega), o.size, fun z hz hne => by
      have hne : z ≠ g := fun e => hne (by rw [e]; rfl)
      exact o.block z hz hne hne (by simpa using hne)⟩
end
theorem infoJ : (Tryz.prog.info? 46).map (fun i => (i.zero, i.size, i.bytes)) = some (some (.agg #[.pointer none, .pointer none, .pointer none]), 3, 24) := by kernel_rfl
section
variable {p m b c : Nat} {w : World}
theorem both_words (h : Both p m b c w) (hc : c ≤ 4900) : Calls Tryz.prog 15 #[.agg #[.pointer (some ⟨p, 0, none⟩), .pointer (some ⟨b, 0, none⟩)]] w fun e W' => e = .returned (.bool true) ∧ Below w.heap.size w W' := by
  obtain ⟨n, D, s, L, hP, hr, hL, _⟩ := h
  exact pair_words hP hr (by omega)
theorem both_store (h : Both p m b c w) (hl : LayM w) (hc : c ≤ 4900) (x : Ad) (v : Int) (hv : (Lit.int .u64 v).wf = true) :
    Calls Tryz.prog 12 #[.agg #[.pointer (some ⟨p, 0, none⟩), .pointer (some ⟨b, 0, none⟩)], .agg #[.int .u8 x.k, .int .i64 x.a, .int .i64 x.f, .int .u64 v]] w fun e W' => e = .returned (.tuple #[]) ∧ Both p m b (c + 1) W' ∧ Fr p m b w W' := by
  obtain ⟨n, D, s, L, hP, hr, hL, hn, h0, h1⟩ := h
  refine (pair_store2 x v hv hP hr hl h0 (by omega) (by omega) (by omega)).mono ?_
  rintro e W' ⟨rfl, hP', hf⟩
  have := storeA_len L x v
  exact ⟨rfl, ⟨_, _, _, _, hP', hr.store x v, by omega, by show ((n + 1 : Nat) : Int) ≤ s.st + 1; omega, by show 0 ≤ s.st + 1; omega, by show s.st + 1 ≤ _; push_cast; omega⟩, hf⟩
end
section
variable {B p m b c : Nat} {x : JO} {w : World}
/-- A step of whichever. -/
theorem op_any (hB : 1 < B) (hBm : B ≤ m) (hBw : B ≤ w.heap.size) (hc : c ≤ 4900) (hb : Both p m b c w) (hl : Lay w) (hlm : LayM w) (J : JAt B x w) :
    Calls Tryz.prog 13 #[.agg x.cells.toArray, .agg #[.pointer (some ⟨p, 0, none⟩), .pointer (some ⟨b, 0, none⟩)]] w (StepS B p m b c x w) := by
  obtain ⟨o, h⟩ := J
  obtain ⟨M, hM⟩ := hb.toM hc
  have hk := h.kd
  obtain hk | hk : x.kd = 0 ∨ x.kd = 1 := by omega
  · have e : x.cells = [.pointer (some ⟨x.q, 0, none⟩), .pointer none, .pointer (some ⟨x.K, 0, none⟩)] := by unfold JO.cells; rw [hk]; rfl
    rw [e]
    exact (op_give hB hBm hBw hc hM hl hlm h hk).mono fun _ _ h => h.toS
  · have e : x.cells = [.pointer none, .pointer (some ⟨x.q, 0, none⟩), .pointer (some ⟨x.K, 0, none⟩)] := by unfold JO.cells; rw [hk]; rfl
    rw [e]
    exact (op_take hB hBm hBw hc hM hl hlm h hk).mono fun _ _ h => h.toS
end
/-- A new operation and the document's, and the box that names both. -/
structure NewBox (B n0 : Nat) (x : JO) (T : Nat) (X : World) : Prop where
  old : n0 ≤ T
  box : Bq T 46 x.cells X
  jo : JAt B x X
  hfp : ∀ z ∈ x.fp, n0 ≤ z
section
variable {B n0 T q K : Nat} {x : JO} {w w3 w4 X Y : World} {g : List EP} {vv : Value} {fp : List Nat}
theorem NewBox.same (h : NewBox B n0 x T X) (hs : ∀ z, n0 ≤ z → z < X.heap.size → Y.heap[z]? = X.heap[z]?) : NewBox B n0 x T Y :=
  ⟨h.old, h.box.same (hs T h.old h.box.lt), h.jo.same fun z hz => hs z (h.hfp z hz) (h.jo.own z hz).lt, h.hfp⟩
theorem NewBox.below (h : NewBox B n0 x T X) (hb : Below X.heap.size X Y) : NewBox B n0 x T Y := h.same fun z _ hz => hb.block z hz
/-- A new Give, and the document's. -/
theorem jo_give (hok : ∀ e ∈ g, e.ok) (hl : g.length < 100000) (hB : B ≤ n0) (R : PRepO false q fp (newG g) w3) (hf : ∀ y ∈ fp, n0 ≤ y) (hn : w3.heap.size ≤ w.heap.size) (hb : Below w3.heap.size w3 Y) (D : NewD w K (newG g).ln g vv Y) :
    ∃ R', JAt B ⟨0, q, K, fp, R'⟩ Y ∧ ∀ z ∈ (⟨0, q, K, fp, R'⟩ : JO).fp, n0 ≤ z ∨ w.heap.size ≤ z := by
  have _ := hok
  have hlt : ∀ y ∈ fp, y < w3.heap.size := fun y hy => by obtain ⟨t, cs, k, _⟩ := R.own y hy; exact k.lt
  have hvb : ∀ x, vv.ownBlock = some x → w.heap.size ≤ x := fun x hx => (D.row.bq hx).1
  have e0 : (⟨(newG g).ln, [], g, 0, 0, 0, EP.zero⟩ : OG) = newG g := rfl
  have hn0 : n0 ≤ w.heap.size := by
    have := R.mem
    have h1 := hf q this
    have h2 := hlt q this
    omega
  refine ⟨K :: (Option.toList (Value.slice none 0 0).ownBlock ++ vv.ownBlock.toList), ⟨newG g, ONum.newG g, hl, by show (0 : Nat) ≤ 1; omega, R.same fun y hy => hb.block y (hlt y hy), ⟨.slice none 0 0, vv, D.k, ⟨OwnE.nil _ _, D.row.mono (by omega), fun x hx => by cases hx⟩, rfl⟩, fun y hy h2 => ?_, fun y hy => Nat.le_trans hB (hf y hy), ?_⟩, fun z hz => ?_⟩
  · have h1 := hlt y hy
    have h3 := D.old
    simp only [List.mem_cons, List.mem_append, Option.mem_toList] at h2
    rcases h2 with rfl | h2 | h2
    · omega
    · cases h2
    · have := hvb y h2; omega
  · have := D.old
    show B ≤ K
    omega
  · rcases List.mem_append.1 hz with hz | hz
    · exact .inl (hf z hz)
    · simp only [List.mem_cons, List.mem_append, Option.mem_toList] at hz
      rcases hz with rfl | hz | hz
      · exact .inr D.old
      · cases hz
      · exact .inr (hvb z hz)
/-- A new Take, and the document's. -/
theorem jo_take (hB : B ≤ n0) (R : PRepO true q fp newT w3) (hf : ∀ y ∈ fp, n0 ≤ y) (hb : Below w3.heap.size w3 Y) (hK : w3.heap.size ≤ K) (D : Bk K 80 (RD newT (.slice none 0 0) (.slice none 0 0)) Y) :
    JAt B ⟨1, q, K, fp, [K]⟩ Y ∧ ∀ z ∈ (⟨1, q, K, fp, [K]⟩ : JO).fp, n0 ≤ z := by
  have hlt : ∀ y ∈ fp, y < w3.heap.size := fun y hy => by obtain ⟨t, cs, k, _⟩ := R.own y hy; exact k.lt
  have hn0 : n0 ≤ w3.heap.size := by
    have := R.mem
    have h1 := hf q this
    have h2 := hlt q this
    omega
  refine ⟨⟨newT, ONum.newT, by decide, by show (1 : Nat) ≤ 1; omega, R.same fun y hy => hb.block y (hlt y hy), ⟨.slice none 0 0, .slice none 0 0, D, ⟨OwnE.nil _ _, OwnE.nil _ _, fun x hx => by cases hx⟩, rfl⟩, fun y hy h2 => ?_, fun y hy => Nat.le_trans hB (hf y hy), ?_⟩, fun z hz => ?_⟩
  · have h1 := hlt y hy
    simp only [List.mem_singleton] at h2
    omega
  · show B ≤ K
    omega
  · rcases List.mem_append.1 hz with hz | hz
    · exact hf z hz
    · simp only [List.mem_singleton] at hz
      omega
theorem zBox (w : World) : Bq w.heap.size 46 [.pointer none, .pointer none, .pointer none] (w.alloc (.cells #[.pointer none, .pointer none, .pointer none] 46)) := Bq.new w [.pointer none, .pointer none, .pointer none] _
theorem bl_al9 (h : Below w.heap.size w X) (o : Obj) : Below w.heap.size w (X.alloc o) := h.alloc h.size o
theorem bl_to9 (h : Below w.heap.size w X) (k : Below X.heap.size X Y) : Below w.heap.size w Y := h.trans (k.mono h.size)
end
end Go.Proofs.YtjpanofkikfeoaaGreatDoor
