/-
  What the law's look at what is settled asks holds where nothing is under way; condition: what holds between steps, a keeper and threads with nothing under way.
  A Shrink of a segment that is not mapped, a Grow of a mapped one: over in one step, nothing turned; condition: the tables as laid, the memory lies as it says.
  Actors that have nothing yet, and the slice that make gives of them; condition: the memory lies as it says.
  How many slots the list has where nothing is under way, by which segments are mapped; condition: what holds between steps, no slot gone, one actor alone has some.
  One actor alone that gets slots one after another: what holds between, and the law's Made then; condition: the tables as laid, all lies as it says.
-/
import Derived.Test.YtmjcbjcnmgleaaaGreatDoorAC1
import Derived.Test.YtmjcbjcnmgleaaaGreatDoorGG12
import Derived.Test.YtmjcbjcnmgleaaaGreatDoorGP14
import Derived.Test.YtmjcbjcnmgleaaaGreatDoorGP19
import Derived.Test.YtmjcbjcnmgleaaaGreatDoorGP22
namespace Go.Proofs.YtmjcbjcnmgleaaaGreatDoor
open Go.RowKit Go.Maps

theorem heldsN_end (th : Nat → TA) {nt : Nat} (hz : ∀ k, nt ≤ k → k < 6 → (th k).held = []) : ∀ d, nt + d ≤ 6 → heldsN th (nt + d) = heldsN th nt
  | 0, _ => rfl
  | d + 1, h => by
    show heldsN th (nt + d) ++ (th (nt + d)).held = _
    rw [heldsN_end th hz d (by omega), hz (nt + d) (by omega) (by omega), List.append_nil]
theorem sum6_held (th : Nat → TA) {nt : Nat} (hn : nt ≤ 6) (hz : ∀ k, nt ≤ k → k < 6 → (th k).held = []) (z : Int) : (sum6 fun k => ((th k).held.map (·.1)).count z) = ((heldsN th nt).map (·.1)).count z := by
  have e := heldsN_end th hz (6 - nt) (by omega)
  rw [show nt + (6 - nt) = 6 by omega] at e
  rw [← e]
  simp only [sum6, heldsN, List.nil_append, List.map_append, List.count_append]
theorem nodup_one {l : List Int} (h : ∀ z, l.count z ≤ 1) : l.Nodup := by
  induction l with
  | nil => exact List.nodup_nil
  | cons a l ih =>
    refine List.nodup_cons.2 ⟨fun hm => ?_, ih fun z => ?_⟩
    · have h1 := h a
      have h2 := List.count_pos_iff.2 hm
      rw [List.count_cons_self] at h1
      omega
    · have h1 := h z
      rw [List.count_cons] at h1
      omega
theorem InvK.setQ {N mo : Int} {th : Nat → TA} {K : KO} {S : List Int} {T : Int} {M : MA} {n nt : Nat} (I : InvK N mo th K S T M) (hN : N = 8 * (n : Int)) (hn : n ≤ 3) (hmo : mo < 4294967296) (hno : ∀ k, k < 6 → (th k).op = .no) (h0 : K.ln = 0) (hnt : nt ≤ 6) (hz : ∀ k, nt ≤ k → k < 6 → (th k).held = []) : SetQ n nt th S M := by
  obtain ⟨hc, hg⟩ := I.settled hno h0
  have hcz : ∀ z, S.count z + ((heldsN th nt).map (·.1)).count z + rz M z = if 0 ≤ z ∧ z < N then 1 else 0 := fun z => by rw [← sum6_held th hnt hz]; exact hc z
  have hin : ∀ z, 0 < ((heldsN th nt).map (·.1)).count z → 0 ≤ z ∧ z < N := fun z h => by
    have := hcz z
    by_cases e : 0 ≤ z ∧ z < N
    · exact e
    · rw [if_neg e] at this
      omega
  have hmem : ∀ i, i < nt → ∀ x ∈ (th i).held, x.1 ∈ (heldsN th nt).map (·.1) := fun i hi x hx => by
    obtain ⟨r, e⟩ := heldsN_part th hi
    rw [e]
    exact List.mem_map_of_mem (List.mem_append_right _ (List.mem_append_left _ hx))
  have hone : ∀ z, ((heldsN th nt).map (·.1)).count z ≤ 1 := fun z => by
    have := hcz z
    split at this <;> omega
  have hlen : (heldsN th nt).length ≤ 24 := by
    have := fit_le 24 ((heldsN th nt).map (·.1)) (nodup_one hone) fun z hm => by
      have := hin z (List.count_pos_iff.2 hm)
      omega
    simpa using this
  refine ⟨hn, fun i hi x hx => ?_, by omega, by have := I.lenS; omega, fun z hm => ?_, fun z h => ?_, fun z h => ?_, fun g h => ?_⟩
  · have h1 := I.held i (by omega) x hx
    have h2 := hin x.1 (List.count_pos_iff.2 (hmem i hi x hx))
    exact ⟨by omega, h1.1, h1.2.1, by omega⟩
  · have h1 := I.G.sN hm
    exact ⟨by omega, I.G.sn z hm⟩
  · obtain ⟨s, g, e, s0, s4, g0, g1⟩ := I.G.frm (z : Int) (by omega)
    rw [e, stW_header s g s0 s4 g0 (by omega)]
    exact ⟨s0, s4⟩
  · have := hcz (z : Int)
    rw [if_pos (by omega)] at this
    exact this
  · obtain ⟨a1, a2, a3, a4⟩ := hg (g : Int) (by omega) (by omega)
    exact ⟨a1, a2, a3 (by omega), a4⟩
end Go.Proofs.YtmjcbjcnmgleaaaGreatDoor
namespace Go.Proofs.YtmjcbjcnmgleaaaGreatDoor
open Go.RowKit Go.Maps

section
variable {p b : Nat} {g lk : Int} {M : MV} {W : World}
theorem shrunk_none (F : VX p b M W) (hg : 0 ≤ g ∧ g < 32) (hl : -9223372036854775808 ≤ lk ∧ lk < 9223372036854775808) (h0 : M.V (adG g) = 0) (hst : M.s.st < 1000000) :
    Calls Tryz.prog 27 #[.pointer (some ⟨p, 0, none⟩), .int .i64 g, .int .i64 lk] W fun e w' => ∃ k : Nat, e = .returned (.tuple #[.int .i64 6, .int .i64 (k : Int)]) ∧ VX p b (ldM M (adG g)) w' ∧ Onl p b [] W w' := by
  refine (shrunk_J (J := fun i o M2 => i = 0 ∧ o = newKX true g lk ∧ M2 = M) (Fin := fun _ o M2 => o.err = 6 ∧ M2 = ldM M (adG g)) hg.1 hg.2 hl F ⟨rfl, rfl, rfl⟩ fun i o M2 h ok hu => ?_).mono ?_
  · obtain ⟨h1, h2, h3⟩ := h
    have e : kX o M2 = (⟨{ (newKX true g lk).k with ln := 0 }, 6⟩, ldM M (adG g)) := by
      rw [h2, h3]
      simp [kX, shrinkX, newKX, h0]
    rw [e, h2, h3]
    exact ⟨by simp [newKX], by omega, hst, .inl ⟨rfl, rfl, rfl⟩⟩
  · rintro e w' ⟨k, o, M', rfl, ⟨h1, h2⟩, F', O⟩
    rw [h1]
    exact ⟨k, rfl, h2 ▸ F', O⟩
theorem grown_same (F : VX p b M W) (hg : 0 ≤ g ∧ g < 32) (h0 : M.V (adG g) = 1) (hst : M.s.st < 1000000) :
    Calls Tryz.prog 29 #[.pointer (some ⟨p, 0, none⟩), .int .i64 g] W fun e w' => ∃ k : Nat, e = .returned (.tuple #[.int .i64 8, .int .i64 (k : Int)]) ∧ VX p b (ldM M (adG g)) w' ∧ Onl p b [] W w' := by
  refine (grown_J (J := fun i o M2 => i = 0 ∧ o = newKX false g 0 ∧ M2 = M) (Fin := fun _ o M2 => o.err = 8 ∧ M2 = ldM M (adG g)) hg.1 hg.2 F ⟨rfl, rfl, rfl⟩ fun i o M2 h ok hu => ?_).mono ?_
  · obtain ⟨h1, h2, h3⟩ := h
    have e : kX o M2 = (⟨{ (newKX false g 0).k with ln := 0 }, 8⟩, ldM M (adG g)) := by
      rw [h2, h3]
      simp [kX, growX, newKX, h0]
    rw [e, h2, h3]
    exact ⟨by simp [newKX], by omega, hst, .inl ⟨rfl, rfl, rfl⟩⟩
  · rintro e w' ⟨k, o, M', rfl, ⟨h1, h2⟩, F', O⟩
    rw [h1]
    exact ⟨k, rfl, h2 ▸ F', O⟩
end
end Go.Proofs.YtmjcbjcnmgleaaaGreatDoor
namespace Go.Proofs.YtmjcbjcnmgleaaaGreatDoor
open Go.RowKit Go.Maps

def act1 : Array Value := #[.slice none 0 0, .pointer none, .pointer none]
def act4 : Array Value := #[.slice none 0 0, .pointer none, .pointer none, .slice none 0 0, .pointer none, .pointer none, .slice none 0 0, .pointer none, .pointer none, .slice none 0 0, .pointer none, .pointer none]
theorem mkA1 (w : World) : (Instr.makeSlice 70 (.int .i64 1) (.int .i64 1)).run Tryz.prog w = .ok (.slice (some ⟨w.heap.size, 0, none⟩) 1 1) (w.alloc (.cells act1 79)) := by kernel_rfl
theorem mkA4 (w : World) : (Instr.makeSlice 70 (.int .i64 4) (.int .i64 4)).run Tryz.prog w = .ok (.slice (some ⟨w.heap.size, 0, none⟩) 4 4) (w.alloc (.cells act4 79)) := by kernel_rfl
def ly0 : Nat → LY := fun _ => ⟨.slice none 0 0, .pointer none, .pointer none, []⟩
theorem hrow_nil (w : World) (B : Nat) : HRow w B (.slice none 0 0) [] := ⟨none, 0, rfl, Nat.le_refl _, by decide, fun _ => rfl, fun h => absurd h (by decide)⟩
section
variable {nt B p b : Nat} {M : MV} {w : World} {cur : Array Value}
theorem tw_start (F : VX p b M w) (hp : B ≤ p) (hb : B ≤ b) (hB : B ≤ w.heap.size) (h1 : cur.size = 3 * nt) (h2 : ∀ j, j < nt → cur[3 * j]? = some (.slice none 0 0) ∧ cur[3 * j + 1]? = some (.pointer none) ∧ cur[3 * j + 2]? = some (.pointer none)) :
    TW nt B p b w.heap.size ly0 th0 M (w.alloc (.cells cur 79)) :=
  ⟨F.below ((Below.refl _ _).alloc (Nat.le_refl _) _), hp, hb, hB, ⟨cur, alloc_blk _ _, h1, h2⟩, fun _ _ => hrow_nil _ _, fun _ _ => ⟨rfl, rfl, rfl⟩, fun _ _ x hx => by simp [ly0] at hx, fun _ _ _ _ _ g hg => by simp [ly0, hblk] at hg, fun _ _ _ _ _ x hx => by simp [ly0] at hx⟩
theorem tw_one (F : VX p b M w) (hp : B ≤ p) (hb : B ≤ b) (hB : B ≤ w.heap.size) : TW 1 B p b w.heap.size ly0 th0 M (w.alloc (.cells act1 79)) :=
  tw_start F hp hb hB rfl fun j hj => by
    have : j = 0 := by omega
    subst this
    exact ⟨rfl, rfl, rfl⟩
theorem tw_four (F : VX p b M w) (hp : B ≤ p) (hb : B ≤ b) (hB : B ≤ w.heap.size) : TW 4 B p b w.heap.size ly0 th0 M (w.alloc (.cells act4 79)) :=
  tw_start F hp hb hB rfl fun j hj => by
    rcases (show j = 0 ∨ j = 1 ∨ j = 2 ∨ j = 3 by omega) with rfl | rfl | rfl | rfl <;> exact ⟨rfl, rfl, rfl⟩
end
end Go.Proofs.YtmjcbjcnmgleaaaGreatDoor
namespace Go.Proofs.YtmjcbjcnmgleaaaGreatDoor
open Go.RowKit Go.Maps

section
variable {mo : Int} {th : Nat → TA} {S : List Int} {T0 up : Nat} {M : MV}
theorem idl_total (I : Idl (8 * (up : Int)) mo th S T0 M) (hn : up ≤ 3) (hno : ∀ k, k < 6 → (th k).op = .no) (hh : ∀ k, 0 < k → k < 6 → (th k).held = []) :
    S.length + (th 0).held.length + sumN (fun g => if (maV M.V).sst (g : Int) = 0 then 8 else 0) up = 8 * up := by
  obtain ⟨K, T, I, h0, hg, _⟩ := I
  have ht := I.total hn rfl hno h0 hh
  suffices h : sumN (fun g => nR (maV M.V) (g : Int)) up = sumN (fun g => if (maV M.V).sst (g : Int) = 0 then 8 else 0) up by rw [← h]; exact ht
  refine sumN_eq fun g hgu => ?_
  obtain ⟨a1, a2, a3, a4⟩ := (I.settled hno h0).2 (g : Int) (by omega) (by omega)
  by_cases h : (maV M.V).sst (g : Int) = 0
  · rw [if_pos h]
    have := a3 (by omega) h
    omega
  · rw [if_neg h]
    have h1 : (maV M.V).sst (g : Int) = 1 := a1.resolve_left h
    have hz : ∀ i : Int, 0 ≤ i → i < 8 → rz (maV M.V) (8 * (g : Int) + i) = 0 := fun i i0 i1 => by
      unfold rz
      rw [if_neg]
      rintro (e | e)
      · exact a4 _ (by unfold segF; omega) h1 e
      · exact hg _ e
    have z0 := hz 0 (by decide) (by decide)
    rw [Int.add_zero] at z0
    unfold nR
    rw [z0, hz 1 (by decide) (by decide), hz 2 (by decide) (by decide), hz 3 (by decide) (by decide), hz 4 (by decide) (by decide), hz 5 (by decide) (by decide), hz 6 (by decide) (by decide), hz 7 (by decide) (by decide)]
theorem sumN_const (c : Nat) : ∀ n, sumN (fun _ => c) n = c * n
  | 0 => rfl
  | n + 1 => by simp only [sumN, sumN_const c n, Nat.mul_succ]
/-- All mapped. -/
theorem idl_all (I : Idl (8 * (up : Int)) mo th S T0 M) (hn : up ≤ 3) (hno : ∀ k, k < 6 → (th k).op = .no) (hh : ∀ k, 0 < k → k < 6 → (th k).held = []) (hs : ∀ g : Nat, g < up → (maV M.V).sst (g : Int) = 1) : S.length + (th 0).held.length = 8 * up := by
  have := idl_total I hn hno hh
  rw [sumN_eq (g := fun _ => 0) fun g hg => by rw [hs g hg]; rfl, sumN_const] at this
  omega
/-- All but one. -/
theorem idl_but {n : Nat} (I : Idl (8 * (up : Int)) mo th S T0 M) (hn : up ≤ 3) (hno : ∀ k, k < 6 → (th k).op = .no) (hh : ∀ k, 0 < k → k < 6 → (th k).held = []) (hnu : n < up) (h0 : (maV M.V).sst (n : Int) = 0) (hs : ∀ g : Nat, g < up → g ≠ n → (maV M.V).sst (g : Int) = 1) : S.length + 8 + (th 0).held.length = 8 * up := by
  have := idl_total I hn hno hh
  rw [sumN_eq (g := fun g => 8 * (if (g : Int) = (n : Int) then 1 else 0)) fun g hg => by
    by_cases e : g = n
    · subst e; rw [if_pos h0, if_pos rfl]
    · rw [hs g hg e, if_neg (by decide), if_neg (by omega)]] at this
  have e : ∀ m, sumN (fun g => 8 * (if (g : Int) = (n : Int) then 1 else 0)) m = 8 * sumN (fun g => if (g : Int) = (n : Int) then 1 else 0) m := fun m => by
    induction m with
    | zero => rfl
    | succ m ih => simp only [sumN, ih]; omega
  rw [e, sumN_at, if_pos hnu] at this
  omega
end
end Go.Proofs.YtmjcbjcnmgleaaaGreatDoor
namespace Go.Proofs.YtmjcbjcnmgleaaaGreatDoor
open Go.RowKit Go.Maps

/-- How many of the first k are a segment's. -/
def hasN (h : List (Int × Int)) (n : Int) (k : Nat) : Nat := ((h.take k).filter fun x => decide (ofS x.1 = n)).length
theorem hasN_step (h : List (Int × Int)) (n : Int) {k : Nat} (hk : k < h.length) : hasN h n (k + 1) = hasN h n k + if ofS (h.getD k (0, 0)).1 = n then 1 else 0 := by
  unfold hasN
  rw [List.take_add_one, List.getElem?_eq_getElem hk, List.getD_eq_getElem?_getD, List.getElem?_eq_getElem hk]
  simp only [Option.toList, Option.getD, List.filter_append, List.length_append]
  by_cases e : ofS h[k].1 = n <;> simp [e]
theorem hasN_le (h : List (Int × Int)) (n : Int) (k : Nat) : hasN h n k ≤ h.length := Nat.le_trans (List.length_filter_le _ _) (by rw [List.length_take]; omega)
/-- One actor, that has h. -/
def thB (h : List (Int × Int)) : Nat → TA := fun k => if k = 0 then ⟨h, .no⟩ else ⟨[], .no⟩
theorem thB_upd (h : List (Int × Int)) (t : TA) (ht : t.op = .no) : updA (thB h) 0 t = thB t.held := by
  funext k
  unfold updA thB
  by_cases e : k = 0
  · rw [if_pos e, if_pos e, ← ht]
  · rw [if_neg e, if_neg e, if_neg e]
theorem thB_nil : thB [] = th0 := by funext k; unfold thB th0; split <;> rfl
theorem thB_no (h : List (Int × Int)) : ∀ k, k < 6 → (thB h k).op = .no := fun k _ => by unfold thB; split <;> rfl
theorem thB_one (h : List (Int × Int)) : ∀ k, 0 < k → k < 6 → (thB h k).held = [] := fun k h0 _ => by unfold thB; rw [if_neg (by omega)]
theorem below_onl {p b : Nat} {E : List Nat} {X w w' : World} (h : Below X.heap.size X w) (o : Onl p b E w w') (hp : X.heap.size ≤ p) (hb : X.heap.size ≤ b) (hE : ∀ x ∈ E, X.heap.size ≤ x) : Below X.heap.size X w' :=
  ⟨o.os.trans h.os, o.tape.trans h.tape, o.output.trans h.output, Nat.le_trans h.size o.size, fun k hk => (o.block k (Nat.lt_of_lt_of_le hk h.size) (by omega) (by omega) (fun e => by have := hE k e; omega)).trans (h.block k hk)⟩
theorem low_grown {X w w' : World} {v : Value} {xs : List (Int × Int)} (h : Below X.heap.size X w) (H : HRow w X.heap.size v xs) (hg : w.grownBy w' (hblk v)) : Below X.heap.size X w' :=
  ⟨hg.os.trans h.os, hg.tape.trans h.tape, hg.output.trans h.output, Nat.le_trans h.size hg.size, fun k hk => (hg.block k (Nat.lt_of_lt_of_le hk h.size) (fun e => by have := (H.lt e.symm).1; omega)).trans (h.block k hk)⟩
/-- What stands where one actor has h, and hw as the memory says. -/
structure BkS (W : World) (p b G up n : Nat) (h hw : List (Int × Int)) (ly : Nat → LY) (M : MV) (w : World) : Prop where
  tw : TW 1 W.heap.size p b G ly (thB h) M w
  idl : ∃ S, Idl (8 * (up : Int)) 3 (thB hw) S (100 + 600 * n) M
  sst : ∀ g : Int, 0 ≤ g → (maV M.V).sst g = if g < (up : Int) then 1 else 0
  st : M.s.st ≤ 100 + 600 * (n : Int)
  low : Below W.heap.size W w
section
variable {W : World} {p b G up n : Nat} {h hw : List (Int × Int)} {ly : Nat → LY} {M : MV} {w : World}
theorem BkS.below {w' : World} (Z : BkS W p b G up n h hw ly M w) (hb : Below w.heap.size w w') : BkS W p b G up n h hw ly M w' :=
  ⟨Z.tw.onl (E := []) (Z.tw.fm.below hb) (.of_below hb) (by simp) (by simp) (by simp), Z.idl, Z.sst, Z.st, Z.low.trans (hb.mono Z.low.size)⟩
theorem sepr_one (v : Value) : SepR 1 0 ly v := fun j hj hjk => absurd hj (by omega)
theorem sepo_one (fp : List Nat) : SepO 1 0 ly fp := fun j hj hjk => absurd hj (by omega)
theorem BkS.full (Z : BkS W p b G up n h hw ly M w) (hu : up ≤ 3) {S : List Int} {T0 : Nat} (I : Idl (8 * (up : Int)) 3 (thB hw) S T0 M) : S.length + hw.length = 8 * up :=
  idl_all I hu (thB_no hw) (thB_one hw) fun g hg => by rw [Z.sst (g : Int) (by omega), if_pos (by omega)]
theorem BkS.made (Z : BkS W p b G up n h h ly M w) (hu : up ≤ 3) (hn : h.length < 8 * up) (hn2 : n ≤ 100) :
    Calls Tryz.prog 24 #[.pointer (some ⟨p, 0, none⟩)] w fun e w' => ∃ s g M', e = .returned (.tuple #[.agg #[.int .i64 s, .int .u32 g, .bool false], .bool true]) ∧ BkS W p b G up (n + 1) h (h ++ [(s, g)]) ly M' w' ∧ Onl p b [] w w' := by
  obtain ⟨S, I⟩ := Z.idl
  have hl := Z.full hu I
  refine (made_idl (by decide) Z.tw.fm I (thB_no h 0 (by decide)) (fun e => by rw [e] at hl; simp at hl; omega) (by omega) (by have := Z.st; omega) fun g g0 _ => by rw [Z.sst g g0]; split <;> decide).mono ?_
  rintro e w' ⟨o, M', rfl, ⟨h1, h2, ⟨S', I'⟩, h3, h4⟩, F', O⟩
  rw [thB_upd h _ rfl] at I'
  refine ⟨_, _, M', rfl, ⟨Z.tw.onl F' O (by simp) (by simp) (by simp), ⟨S', ?_⟩, fun g g0 => by rw [h3]; exact Z.sst g g0, by have := Z.st; push_cast; omega, below_onl Z.low O Z.tw.pB Z.tw.bB (by simp)⟩, O⟩
  exact I'.mono (by omega)
theorem bks_begin {w1 : World} (hL : Below W.heap.size W w1) (F : VX p b M w1) (hp : W.heap.size ≤ p) (hb : W.heap.size ≤ b) (hu : up ≤ 3) (H : Bex up up (8 * up) M) :
    BkS W p b w1.heap.size up 0 [] [] ly0 M (w1.alloc (.cells act1 79)) := by
  refine ⟨by rw [thB_nil]; exact tw_one F hp hb hL.size, ⟨_, by rw [thB_nil]; exact idl_begin (Nat.le_refl _) hu H (by decide)⟩, H.sst, by rw [H.st]; push_cast; omega, hL.trans (((Below.refl _ _).alloc (Nat.le_refl _) _).mono hL.size)⟩
end
end Go.Proofs.YtmjcbjcnmgleaaaGreatDoor
