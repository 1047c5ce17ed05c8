/-
  The document's Write of layer 3: the bytes of all commands, or nothing; conditions: the commands lie as it says, at most 100000 of them.
-/
import Derived.Test.YtlgfdemggkiojaaDoorR9
namespace Go.Proofs.YtlgfdemggkiojaaDoor
open Go.RowKit

/-- The document's commands that lie one behind the other. -/
def RCms (w : World) (g off : Nat) (l : List Cm) : Prop := ∀ i c, l[i]? = some c →
  w.cell? ⟨g, off + i * 9, none⟩ = some (.int .i64 c.kind) ∧ w.cell? ⟨g, off + i * 9 + 1, none⟩ = some (.int .i64 c.fr) ∧ w.cell? ⟨g, off + i * 9 + 2, none⟩ = some (.int .i64 c.to) ∧ w.cell? ⟨g, off + i * 9 + 3, none⟩ = some (.int .i64 c.at_) ∧ w.cell? ⟨g, off + i * 9 + 4, none⟩ = some (.int .i64 c.thr) ∧
  w.cell? ⟨g, off + i * 9 + 5, none⟩ = some (.int .u8 c.sch) ∧ w.cell? ⟨g, off + i * 9 + 6, none⟩ = some (.int .i64 c.op) ∧ w.cell? ⟨g, off + i * 9 + 7, none⟩ = some (.int .u64 c.key) ∧ w.cell? ⟨g, off + i * 9 + 8, none⟩ = some (.int .u64 c.val)
theorem RCms.below {w w' : World} {g off : Nat} {l : List Cm} (h : RCms w g off l) (hb : Below w.heap.size w w') : RCms w' g off l := fun i c hc => by
  obtain ⟨h0, h1, h2, h3, h4, h5, h6, h7, h8⟩ := h i c hc
  have k : ∀ {o v}, w.cell? ⟨g, o, none⟩ = some v → w'.cell? ⟨g, o, none⟩ = some v := fun {o v} hv => (hb.cell (p := ⟨g, o, none⟩) (World.block_lt_of_cell? w _ hv)).trans hv
  exact ⟨k h0, k h1, k h2, k h3, k h4, k h5, k h6, k h7, k h8⟩
/-- .. behind a slice, nil let in. -/
def RSlc (w : World) (A : Option Addr) (l : List Cm) : Prop := l ≠ [] → ∃ g off, A = some ⟨g, off, none⟩ ∧ RCms w g off l
theorem RSlc.below {w w' : World} {A : Option Addr} {l : List Cm} (h : RSlc w A l) (hb : Below w.heap.size w w') : RSlc w' A l := fun hl => by
  obtain ⟨g, off, rfl, hB⟩ := h hl
  exact ⟨g, off, rfl, hB.below hb⟩
theorem rows_cells {w : World} {g : Nat} {bs : List UInt8} {t : TypeId} (h : w.heap[g]? = some (.cells (bs.map bC).toArray t (0, 0))) : ∀ j u, (bs.map bC)[j]? = some u → w.cell? ((⟨g, 0, none⟩ : Addr).add j) = some u := by
  intro j u hu
  have hadd : (⟨g, 0, none⟩ : Addr).add j = ⟨g, j, none⟩ := by unfold Addr.add; split <;> simp_all
  rw [hadd, cell_of_row _ _ _ _ _ _ h]
  simpa using hu
/-- What the document's Write hands back. -/
def RWrote (w0 : World) (l : List Cm) (e : Ending) (W' : World) : Prop :=
  Below w0.heap.size w0 W' ∧ ((l.all mayC = false ∧ e = .returned (.tuple #[.slice none 0 0, .bool false])) ∨
    (l.all mayC = true ∧ ∃ v, W'.ownsRow w0.heap.size 5 1 v (flatB l).length ((flatB l).map bC) ∧ e = .returned (.tuple #[v, .bool true])))

set_option maxRecDepth 100000 in
set_option maxHeartbeats 4000000 in
theorem rwrite_any (A : Option Addr) (cap : Nat) (l : List Cm) (w : World) (hs : RSlc w A l) (hf : ∀ c ∈ l, c.Fit) (hl : l.length ≤ 100000) :
    Calls Tryd.prog 20 #[.slice A l.length cap] w (RWrote w l) := by
  obtain ⟨i0, hi, hz0, hz1, hz2⟩ := info_parts Tryd_info5
  have H0 := Lib.hid (⟨World.ownsRow_nil w _ _ _, fun _ h => by simp at h, Below.refl _ _⟩ : WAt w l 0 (.slice none 0 0) w)
  have HS := Lib.hid hs
  have HF := Lib.hid hf
  clear hs hf
  go_enter Tryd.func20, Tryd.ntmps20
  go_wp2_with fail
  go_loopw [4, 5] (fun v i wr => ∃ k : Nat, k ≤ l.length ∧ i = .int .i64 (k : Int) ∧ WAt w l k v wr) (fun _ i _ => l.length - (intOf i).toNat)
  case atStart => exact ⟨0, Nat.zero_le _, rfl, H0.out⟩
  case round =>
    obtain ⟨k, hk, rfl, hr⟩ := hrel
    have HR := Lib.hid hr
    clear hr
    by_cases hlt : k < l.length
    · obtain ⟨c, hc⟩ : ∃ c, l[k]? = some c := ⟨_, List.getElem?_eq_getElem hlt⟩
      obtain ⟨g, off, rfl, hcm⟩ := HS.out (fun e => by rw [e] at hlt; simp at hlt)
      obtain ⟨h0, h1, h2, h3, h4, h5, h6, h7, h8⟩ := hcm.below (w' := wr) (HR.out.low.mono (Nat.le_refl _)) k c hc
      have HCM := Lib.hid hcm
      have hfit := HF.out c (List.mem_of_getElem? hc)
      have HC := Lib.hid hc
      have HFIT := Lib.hid hfit
      have hlt' : (k : Int) < (l.length : Int) := by omega
      clear hc hcm hfit
      go_wp2_with fail
      refine (rmay_any c _ HFIT.out).mono ?_
      rintro e w2 ⟨rfl, hb2⟩
      have HB2 := Lib.hid hb2
      have HL2 := Lib.hid (HR.out.low.trans (hb2.mono HR.out.low.size))
      clear hb2 h0 h1 h2 h3 h4 h5 h6 h7 h8
      obtain ⟨h0, h1, h2, h3, h4, h5, h6, h7, h8⟩ := HCM.out.below (w' := w2) (HL2.out.mono (Nat.le_refl _)) k c HC.out
      cases hm : mayC c with
      | false =>
        have HM := Lib.hid (all_false HC.out hm)
        clear hm
        go_wp2_with fail
        go_ret2
        exact ⟨HL2.out, .inl ⟨HM.out, rfl⟩⟩
      | true =>
        have hkind := mayC_kind hm
        have HM := Lib.hid hm
        have hk1 := hkind.1
        have hk9 := hkind.2.1
        clear hm hkind
        go_wp2_with fail
        refine (rbytes_any c _ hk1 hk9 HFIT.out.s0 HFIT.out.s1).mono ?_
        rintro e w3 ⟨g2, rfl, hg2, hb3⟩
        obtain ⟨S, hS⟩ : ∃ S, (codeC c).length = S := ⟨_, rfl⟩
        have hsb := sizeOf_bd c.kind
        rw [← codeC_length, hS] at hsb
        rw [hS]
        have HQ := Lib.hid hg2
        have HS2 := Lib.hid hS
        have hX : Below w.heap.size w w3 := HL2.out.trans (hb3.mono HL2.out.size)
        have HX := Lib.hid hX
        have HOWN := Lib.hid (own_low (own_low HR.out.own HB2.out) hb3)
        have hwl := HR.out.len hl
        have hS1 : S ≤ 5 := hsb.2
        have hbase : w.heap.size ≤ w3.heap.size := hX.size
        clear hg2 hX hsb hS hb3 h0 h1 h2 h3 h4 h5 h6 h7 h8
        go_wp2_with (at_builtin; refine wpList_append_own _ rfl (.tmp 18) (.tmp 23) _ rfl w.heap.size 5 i0 _ 1 1 Tryd.underlying22 hi hz0 hz1 hz2 rfl (by decide) _ (flatB (l.take k)).length ((flatB (l.take k)).map bC) rfl HOWN.out ⟨g2, 0, none⟩ S S ((codeC c).map bC) rfl (by rw [List.length_map, HS2.out, Nat.mul_one]) (rows_cells HQ.out) (bC_one _) (by unfold maxLen; omega) (by omega) hbase ?_; intro v' w4 hown' hgrow _; have HO := Lib.hid hown'; have HG := Lib.hid (HX.out.grown hgrow hbase (fun k hk => (HOWN.out.lt k hk).1)); clear hown' hgrow)
        go_roundw
        case rel =>
          exact ⟨k + 1, by omega, by go_num, HR.out.next HC.out HM.out (by rw [HS2.out]; exact HO.out) HG.out⟩
        case measure => simp [intOf]; omega
    · have hall := HR.out.all (by omega)
      have hge : (l.length : Int) ≤ (k : Int) := by omega
      have HALL := Lib.hid hall
      clear hall
      go_wp2_with fail
      go_ret2
      have h := HR.out.own
      rw [HALL.out.2] at h
      exact ⟨HR.out.low, .inr ⟨HALL.out.1, _, h, rfl⟩⟩
end Go.Proofs.YtlgfdemggkiojaaDoor
