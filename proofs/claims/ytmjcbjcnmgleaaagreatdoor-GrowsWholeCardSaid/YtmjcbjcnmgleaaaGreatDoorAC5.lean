/-
  What the law's look at what is settled asks holds where nothing is under way; condition: what holds between steps, a keeper and threads with nothing under way.
  A Shrink of a segment that is not mapped, a Grow of a mapped one: over in one step, nothing turned; condition: the tables as laid, the memory lies as it says.
  Actors that have nothing yet, and the slice that make gives of them; condition: the memory lies as it says.
  How many slots the list has where nothing is under way, by which segments are mapped; condition: what holds between steps, no slot gone, one actor alone has some.
  One actor alone that gets slots one after another: what holds between, and the law's Made then; condition: the tables as laid, all lies as it says.
-/
import Derived.Test.YtmjcbjcnmgleaaaGreatDoorAC1
import Derived.Test.YtmjcbjcnmgleaaaGreatDoorGG12
import Derived.Test.YtmjcbjcnmgleaaaGreatDoorGP14
import Derived.Test.YtmjcbjcnmgleaaaGreatDoorGP19
import Derived.Test.YtmjcbjcnmgleaaaGreatDoorGP22
namespace Go.Proofs.YtmjcbjcnmgleaaaGreatDoor
open Go.RowKit Go.Maps

theorem heldsN_end (th : Nat → TA) {nt : Nat} (hz : ∀ k, nt ≤ k → k < 6 → (th k).held = []) : ∀ d, nt + d ≤ 6 → heldsN th (nt + d) = heldsN th nt
  | 0, _ => rfl
  | d + 1, h => by
    show heldsN th (nt + d) ++ (th (nt + d)).held = _
    rw [heldsN_end th hz d (by omega), hz (nt + d) (by omega) (by omega), List.append_nil]
theorem sum6_held (th : Nat → TA) {nt : Nat} (hn : nt ≤ 6) (hz : ∀ k, nt ≤ k → k < 6 → (th k).held = []) (z : Int) : (sum6 fun k => ((th k).held.map (·.1)).count z) = ((heldsN th nt).map (·.1)).count z := by
  have e := heldsN_end th hz (6 - nt) (by omega)
  rw [show nt + (6 - nt) = 6 by omega] at e
  rw [← e]
  simp only [sum6, heldsN, List.nil_append, List.map_append, List.count_append]
theorem nodup_one {l : List Int} (h : ∀ z, l.count z ≤ 1) : l.Nodup := by
  induction l with
  | nil => exact List.nodup_nil
  | cons a l ih =>
    refine List.nodup_cons.2 ⟨fun hm => ?_, ih fun z => ?_⟩
    · have h1 := h a
      have h2 := List.count_pos_iff.2 hm
      rw [List.count_cons_self] at h1
      omega
    · have h1 := h z
      rw [List.count_cons] at h1
      omega
theorem InvK.setQ {N mo : Int} {th : Nat → TA} {K : KO} {S : List Int} {T : Int} {M : MA} {n nt : Nat} (I : InvK N mo th K S T M) (hN : N = 8 * (n : Int)) (hn : n ≤ 3) (hmo : mo < 4294967296) (hno : ∀ k, k < 6 → (th k).op = .no) (h0 : K.ln = 0) (hnt : nt ≤ 6) (hz : ∀ k, nt ≤ k → k < 6 → (th k).held = []) : SetQ n nt th S M := by
  obtain ⟨hc, hg⟩ := I.settled hno h0
  have hcz : ∀ z, S.count z + ((heldsN th nt).map (·.1)).count z + rz M z = if 0 ≤ z ∧ z < N then 1 else 0 := fun z => by rw [← sum6_held th hnt hz]; exact hc z
  have hin : ∀ z, 0 < ((heldsN th nt).map (·.1)).count z → 0 ≤ z ∧ z < N := fun z h => by
    have := hcz z
    by_cases e : 0 ≤ z ∧ z < N
    · exact e
    · rw [if_neg e] at this
      omega
  have hmem : ∀ i, i < nt → ∀ x ∈ (th i).held, x.1 ∈ (heldsN th nt).map (·.1) := fun i hi x hx => by
    obtain ⟨r, e⟩ := heldsN_part th hi
    rw [e]
    exact List.mem_map_of_mem (List.mem_append_right _ (List.mem_append_left _ hx))
  have hone : ∀ z, ((heldsN th nt).map (·.1)).count z ≤ 1 := fun z => by
    have := hcz z
    split at this <;> omega
  have hlen : (heldsN th nt).length ≤ 24 := by
    have := fit_le 24 ((heldsN th nt).map (·.1)) (nodup_one hone) fun z hm => by
      have := hin z (List.count_pos_iff.2 hm)
      omega
    simpa using this
  refine ⟨hn, fun i hi x hx => ?_, by omega, by have := I.lenS; omega, fun z hm => ?_, fun z h => ?_, fun z h => ?_, fun g h => ?_⟩
  · have h1 := I.held i (by omega) x hx
    have h2 := hin x.1 (List.count_pos_iff.2 (hmem i hi x hx))
    exact ⟨by omega, h1.1, h1.2.1, by omega⟩
  · have h1 := I.G.sN hm
    exact ⟨by omega, I.G.sn z hm⟩
  · obtain ⟨s, g, e, s0, s4, g0, g1⟩ := I.G.frm (z : Int) (by omega)
    rw [e, stW_header s g s0 s4 g0 (by omega)]
    exact ⟨s0, s4⟩
  · have := hcz (z : Int)
    rw [if_pos (by omega)] at this
    exact this
  · obtain ⟨a1, a2, a3, a4⟩ := hg (g : Int) (by omega) (by omega)
    exact ⟨a1, a2, a3 (by omega), a4⟩
end Go.Proofs.YtmjcbjcnmgleaaaGreatDoor
namespace Go.Proofs.YtmjcbjcnmgleaaaGreatDoor
open Go.RowKit Go.Maps

section
variable {p b : Nat} {g lk : Int} {M : MV} {W : World}
end
end Go.Proofs.YtmjcbjcnmgleaaaGreatDoor
namespace Go.Proofs.YtmjcbjcnmgleaaaGreatDoor
open Go.RowKit Go.Maps

def act4 : Array Value := #[.slice none 0 0, .pointer none, .pointer none, .slice none 0 0, .pointer none, .pointer none, .slice none 0 0, .pointer none, .pointer none, .slice none 0 0, .pointer none, .pointer none]
theorem mkA4 (w : World) : (Instr.makeSlice 70 (.int .i64 4) (.int .i64 4)).run Tryz.prog w = .ok (.slice (some ⟨w.heap.size, 0, none⟩) 4 4) (w.alloc (.cells act4 79)) := by kernel_rfl
def ly0 : Nat → LY := fun _ => ⟨.slice none 0 0, .pointer none, .pointer none, []⟩
theorem hrow_nil (w : World) (B : Nat) : HRow w B (.slice none 0 0) [] := ⟨none, 0, rfl, Nat.le_refl _, by decide, fun _ => rfl, fun h => absurd h (by decide)⟩
section
variable {nt B p b : Nat} {M : MV} {w : World} {cur : Array Value}
theorem tw_start (F : VX p b M w) (hp : B ≤ p) (hb : B ≤ b) (hB : B ≤ w.heap.size) (h1 : cur.size = 3 * nt) (h2 : ∀ j, j < nt → cur[3 * j]? = some (.slice none 0 0) ∧ cur[3 * j + 1]? = some (.pointer none) ∧ cur[3 * j + 2]? = some (.pointer none)) :
    TW nt B p b w.heap.size ly0 th0 M (w.alloc (.cells cur 79)) :=
  ⟨F.below ((Below.refl _ _).alloc (Nat.le_refl _) _), hp, hb, hB, ⟨cur, alloc_blk _ _, h1, h2⟩, fun _ _ => hrow_nil _ _, fun _ _ => ⟨rfl, rfl, rfl⟩, fun _ _ x hx => by simp [ly0] at hx, fun _ _ _ _ _ g hg => by simp [ly0, hblk] at hg, fun _ _ _ _ _ x hx => by simp [ly0] at hx⟩
theorem tw_four (F : VX p b M w) (hp : B ≤ p) (hb : B ≤ b) (hB : B ≤ w.heap.size) : TW 4 B p b w.heap.size ly0 th0 M (w.alloc (.cells act4 79)) :=
  tw_start F hp hb hB rfl fun j hj => by
    rcases (show j = 0 ∨ j = 1 ∨ j = 2 ∨ j = 3 by omega) with rfl | rfl | rfl | rfl <;> exact ⟨rfl, rfl, rfl⟩
end
end Go.Proofs.YtmjcbjcnmgleaaaGreatDoor
namespace Go.Proofs.YtmjcbjcnmgleaaaGreatDoor
open Go.RowKit Go.Maps

section
variable {mo : Int} {th : Nat → TA} {S : List Int} {T0 up : Nat} {M : MV}
end
end Go.Proofs.YtmjcbjcnmgleaaaGreatDoor
namespace Go.Proofs.YtmjcbjcnmgleaaaGreatDoor
open Go.RowKit Go.Maps

/-- One actor, that has h. -/
def thB (h : List (Int × Int)) : Nat → TA := fun k => if k = 0 then ⟨h, .no⟩ else ⟨[], .no⟩
theorem below_onl {p b : Nat} {E : List Nat} {X w w' : World} (h : Below X.heap.size X w) (o : Onl p b E w w') (hp : X.heap.size ≤ p) (hb : X.heap.size ≤ b) (hE : ∀ x ∈ E, X.heap.size ≤ x) : Below X.heap.size X w' :=
  ⟨o.os.trans h.os, o.tape.trans h.tape, o.output.trans h.output, Nat.le_trans h.size o.size, fun k hk => (o.block k (Nat.lt_of_lt_of_le hk h.size) (by omega) (by omega) (fun e => by have := hE k e; omega)).trans (h.block k hk)⟩
/-- What stands where one actor has h, and hw as the memory says. -/
structure BkS (W : World) (p b G up n : Nat) (h hw : List (Int × Int)) (ly : Nat → LY) (M : MV) (w : World) : Prop where
  tw : TW 1 W.heap.size p b G ly (thB h) M w
  idl : ∃ S, Idl (8 * (up : Int)) 3 (thB hw) S (100 + 600 * n) M
  sst : ∀ g : Int, 0 ≤ g → (maV M.V).sst g = if g < (up : Int) then 1 else 0
  st : M.s.st ≤ 100 + 600 * (n : Int)
  low : Below W.heap.size W w
section
variable {W : World} {p b G up n : Nat} {h hw : List (Int × Int)} {ly : Nat → LY} {M : MV} {w : World}
theorem BkS.below {w' : World} (Z : BkS W p b G up n h hw ly M w) (hb : Below w.heap.size w w') : BkS W p b G up n h hw ly M w' :=
  ⟨Z.tw.onl (E := []) (Z.tw.fm.below hb) (.of_below hb) (by simp) (by simp) (by simp), Z.idl, Z.sst, Z.st, Z.low.trans (hb.mono Z.low.size)⟩
end
end Go.Proofs.YtmjcbjcnmgleaaaGreatDoor
