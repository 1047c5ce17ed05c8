/-
  The document's Shrink of layer 9 in plain words; conditions as each theorem says.
-/
import Derived.Test.YtmjcbjcnmgleaaaGreatDoorXP45
namespace Go.Proofs.YtmjcbjcnmgleaaaGreatDoor
open Go.RowKit Go.Maps
section
variable {B p m b n K c e k1 : Nat} {sh : Bool} {ln er sg lk sl bh seg looks slot w0 err : Int} {psh : OS} {pk : PO} {kept : List Int} {pp pa pu : Option Addr} {kv : Value} {D : DataW Unit} {s : Acc8} {L L' : List (Ad × Int)} {M M' : MV} {E R : List Nat} {w w' : World} {o : KX}
theorem last_rng {xs : List Int} (hz : ∀ z ∈ xs, 0 ≤ z ∧ z < 256) (hne : xs ≠ []) : 0 ≤ xs.getLastD 0 ∧ xs.getLastD 0 < 256 := by
  refine hz _ ?_
  rw [List.getLastD_eq_getLast?, List.getLast?_eq_some_getLast hne]
  exact List.getLast_mem hne
theorem pushD_new {e : Nat} {z : Int} (h : RefAt e true z 1 false 0 0 w) (hz : 0 ≤ z ∧ z < 256) : PushD e ⟨1, 0, z⟩ w := ⟨0, h, u64_0, u64_0, ⟨by show (0:Int) ≤ 1; decide, by show (1:Int) ≤ 3; decide⟩, hz⟩
theorem popD_new {e : Nat} (h : RefAt e false 0 1 false 0 0 w) : PopD e ⟨1, 0, 0⟩ w := ⟨0, false, 0, h, u64_0, u64_0, .inl ⟨rfl, rfl⟩⟩
theorem kx_seven {ln2 : Int} {pu2 : Option Addr} {psh2 : OS} (hBK : B ≤ K) (hBw : B ≤ w.heap.size) (hA : AftP L' (c + 1) M') (h : OD B p m b n D s K E (OpC true ln2 err seg looks sl w0 bh pp pa pu2 kv) L' M'.s w w') (hE : ∀ x ∈ E, x ∈ R) (hK : K ∈ R)
    (kr : KeptAt B kv kept w') (hg : ∀ g, kv.ownBlock = some g → g ∈ R ∨ w.heap.size ≤ g) (hz : ∀ z ∈ kept, 0 ≤ z ∧ z < 256)
    (hs : (kept = [] ∧ ln2 = 3) ∨ (kept ≠ [] ∧ ln2 = 7 ∧ ∃ e2, pu2 = some ⟨e2, 0, none⟩ ∧ RefAt e2 true (kept.getLastD 0) 1 false 0 0 w' ∧ w.heap.size ≤ e2 ∧ K ≠ e2)) :
    KxP B p m b n c D s K R (⟨(⟨true, ln, seg, looks, slot, w0, psh2, pk, kept⟩ : KO).seven, err⟩, M') w w' := by
  unfold KO.seven
  rcases hs with ⟨h1, rfl⟩ | ⟨h1, rfl, e2, rfl, r, hle, hKe⟩
  · rw [if_pos h1]
    exact kx_idle hBK hA h hE (fun h => absurd h (by simp)) (by simp) (fun _ => ⟨kr, hg⟩) hK
  · rw [if_neg h1]
    exact kx_part hBK hA h hE (fun h => absurd h (by simp)) (by simp) (fun h => absurd h (by simp)) (fun _ => ⟨rfl, pushD_new r (last_rng hz h1)⟩) hKe (fun _ => ⟨kr, hg⟩) hK ⟨.inr hle, r.ownX (by omega)⟩
theorem ks5 (hBm : B ≤ m) (hc : c ≤ 4900) (S : Say p m b n D L c M w) (ok : KNum ⟨⟨true, 5, seg, looks, slot, w0, psh, pk, kept⟩, err⟩) (hBK : B ≤ K) (hK : K ∈ R) (heR : e ∈ R) (hBe : B ≤ e) (hKe : K ≠ e) (Rp : PopD e psh w)
    (k : Bk K 108 (OpC true 5 err seg looks sl w0 bh (some ⟨e, 0, none⟩) pa pu kv) w) (kr : KeptAt B kv kept w) (hkR : ∀ g, kv.ownBlock = some g → g ∈ R) :
    Calls Tryz.prog 72 #[.pointer (some ⟨K, 0, none⟩), .pointer (some ⟨b, 0, none⟩)] w fun ee w' => ee = .returned (.tuple #[]) ∧ KxP B p m b n c D M.s K R (kX ⟨⟨true, 5, seg, looks, slot, w0, psh, pk, kept⟩, err⟩ M) w w' := by
  have hBw : B ≤ w.heap.size := Nat.le_trans hBm S.pr.m_le
  have hkz : ∀ z ∈ kept, 0 ≤ z ∧ z < 256 := ok.kept
  have hkl : kept.length ≤ 255 := ok.k5 (.inl rfl)
  by_cases hz : (popX psh M).1.nx = 0
  · by_cases hs : wSlot (popX psh M).1.h < 0
    · rw [show kX ⟨⟨true, 5, seg, looks, slot, w0, psh, pk, kept⟩, err⟩ M = (⟨(⟨true, 5, seg, looks, slot, w0, (popX psh M).1, pk, kept⟩ : KO).seven, err⟩, (popX psh M).2) by simp [kX, shrinkX, hz, hs]]
      refine (sk5_none hBm hc S k hBK ok.seg (Nat.le_refl _) hBe hKe Rp kr hkz (by omega) hz hs).mono ?_
      rintro ee w' ⟨ln2, pu2, ⟨rfl, L', A', h⟩, kr', hs'⟩
      exact ⟨rfl, kx_seven hBK hBw A' h (in2 hK heR) hK kr' (fun g hg => .inl (hkR g hg)) hkz hs'⟩
    · have hs0 : 0 ≤ wSlot (popX psh M).1.h := by omega
      have hy : 0 ≤ wSlot (popX psh M).1.h ∧ wSlot (popX psh M).1.h < 256 := ⟨hs0, by have := (slot_in (popX psh M).1.h).2; omega⟩
      by_cases hsg : segF (wSlot (popX psh M).1.h) = seg
      · rw [show kX ⟨⟨true, 5, seg, looks, slot, w0, psh, pk, kept⟩, err⟩ M = (⟨⟨true, 6, seg, looks, slot, w0, psh, newPark (wSlot (popX psh M).1.h), kept⟩, err⟩, (popX psh M).2) by simp [kX, shrinkX, popped, hz, hs, hsg]]
        refine (sk5_own hBm hc S k hBK ok.seg (Nat.le_refl _) hBe hKe Rp kr hz hs0 hsg).mono ?_
        rintro ee w' ⟨kn, ⟨rfl, L', A', h⟩, kk, hle, hKn, kr'⟩
        have hkn : (kn ∈ R ∨ w.heap.size ≤ kn) ∧ OwnX B kn w' := ⟨.inr hle, by omega, _, _, kk, by decide⟩
        exact ⟨rfl, kx_fin (e := kn) (k1 := kn) hBK A' h (in2 hK heR) (fun h => absurd h (by simp)) (fun h => absurd h (by simp)) (fun _ => ⟨rfl, ⟨hKn, hKn⟩, by omega, by omega, none, kk, fun h => absurd (show (1 : Int) = 10 from h) (by decide)⟩) (fun h => absurd h (by simp)) (fun _ => ⟨kr', fun g hg => .inl (hkR g hg)⟩) hK hkn hkn⟩
      · have hE : ∀ x ∈ K :: e :: kv.ownBlock.toList, x ∈ R := fun x hx => by
          simp only [List.mem_cons, Option.mem_toList] at hx
          rcases hx with h | h | h
          · rw [h]; exact hK
          · rw [h]; exact heR
          · exact hkR x h
        have hrun := sk5_keep hBm hc S k hBK ok.seg (Nat.le_refl _) hBe hKe Rp kr hkz (by omega) hz hs0 hsg
        by_cases h256 : 256 ≤ kept.length + 1
        · rw [show kX ⟨⟨true, 5, seg, looks, slot, w0, psh, pk, kept⟩, err⟩ M = (⟨(⟨true, 5, seg, looks, slot, w0, psh, pk, kept ++ [wSlot (popX psh M).1.h]⟩ : KO).seven, err⟩, (popX psh M).2) by simp [kX, shrinkX, popped, hz, hs, hsg, h256]]
          refine hrun.mono ?_
          rintro ee w' ⟨ln2, pp2, pu2, kv2, e2, ⟨rfl, L', A', h⟩, kr', hob, hle, hKe2, hd⟩
          rcases hd with ⟨_, rfl, rfl, r⟩ | ⟨h2, _⟩
          · refine ⟨rfl, kx_seven hBK hBw A' h hE hK kr' (fun g hg => hob.elim (fun q => .inl (hkR g (q.symm.trans hg))) fun ⟨g', q1, q2⟩ => .inr (by rw [q1] at hg; injection hg with hg; omega)) (fun z hm => ?_) (.inr ⟨by simp, rfl, e2, rfl, by simpa using r, hle, hKe2⟩)⟩
            rcases List.mem_append.1 hm with h | h
            · exact hkz z h
            · rw [List.mem_singleton.1 h]; exact hy
          · omega
        · rw [show kX ⟨⟨true, 5, seg, looks, slot, w0, psh, pk, kept⟩, err⟩ M = (⟨⟨true, 5, seg, looks, slot, w0, ⟨1, 0, 0⟩, pk, kept ++ [wSlot (popX psh M).1.h]⟩, err⟩, (popX psh M).2) by simp [kX, shrinkX, popped, hz, hs, hsg, h256]]
          refine hrun.mono ?_
          rintro ee w' ⟨ln2, pp2, pu2, kv2, e2, ⟨rfl, L', A', h⟩, kr', hob, hle, hKe2, hd⟩
          rcases hd with ⟨h2, _⟩ | ⟨_, rfl, rfl, r⟩
          · omega
          · exact ⟨rfl, kx_part hBK A' h hE (fun h => absurd h (by simp)) (by simp) (fun _ => ⟨rfl, popD_new r⟩) (fun h => absurd h (by simp)) hKe2 (fun _ => ⟨kr', fun g hg => hob.elim (fun q => .inl (hkR g (q.symm.trans hg))) fun ⟨g', q1, q2⟩ => .inr (by rw [q1] at hg; injection hg with hg; omega)⟩) hK ⟨.inr hle, r.ownX (by omega)⟩⟩
  · rw [show kX ⟨⟨true, 5, seg, looks, slot, w0, psh, pk, kept⟩, err⟩ M = (⟨⟨true, 5, seg, looks, slot, w0, (popX psh M).1, pk, kept⟩, err⟩, (popX psh M).2) by simp [kX, shrinkX, hz]]
    refine (sk5_on hBm hc S k hBK ok.seg (Nat.le_refl _) hBe hKe Rp kr hz).mono ?_
    rintro ee w' ⟨⟨rfl, L', A', h⟩, r, kr'⟩
    exact ⟨rfl, kx_part hBK A' h (in2 hK heR) (fun h => absurd h (by simp)) (by simp) (fun _ => ⟨rfl, r⟩) (fun h => absurd h (by simp)) hKe (fun _ => ⟨kr', fun g hg => .inl (hkR g hg)⟩) hK ⟨.inl heR, by obtain ⟨_, _, _, r0, _⟩ := r; exact r0.ownX hBe⟩⟩
theorem ks7 (hBm : B ≤ m) (hc : c ≤ 4900) (S : Say p m b n D L c M w) (ok : KNum ⟨⟨true, 7, seg, looks, slot, w0, psh, pk, kept⟩, err⟩) (hBK : B ≤ K) (hK : K ∈ R) (heR : e ∈ R) (hBe : B ≤ e) (hKe : K ≠ e) (Rp : PushD e psh w)
    (k : Bk K 108 (OpC true 7 err seg looks sl w0 bh pp pa (some ⟨e, 0, none⟩) kv) w) (kr : KeptAt B kv kept w) (hkR : ∀ g, kv.ownBlock = some g → g ∈ R) :
    Calls Tryz.prog 72 #[.pointer (some ⟨K, 0, none⟩), .pointer (some ⟨b, 0, none⟩)] w fun ee w' => ee = .returned (.tuple #[]) ∧ KxP B p m b n c D M.s K R (kX ⟨⟨true, 7, seg, looks, slot, w0, psh, pk, kept⟩, err⟩ M) w w' := by
  have hBw : B ≤ w.heap.size := Nat.le_trans hBm S.pr.m_le
  have hkz : ∀ z ∈ kept, 0 ≤ z ∧ z < 256 := ok.kept
  have hkl : kept.length ≤ 256 := ok.klen
  have hne : kept ≠ [] := (ok.p7 rfl).1
  by_cases hz : (pushX psh M).1.nx = 0
  · rw [show kX ⟨⟨true, 7, seg, looks, slot, w0, psh, pk, kept⟩, err⟩ M = (⟨(⟨true, 7, seg, looks, slot, w0, psh, pk, kept.dropLast⟩ : KO).seven, err⟩, (pushX psh M).2) by simp [kX, shrinkX, hz]]
    refine (sk7_end hBm hc S k hBK ok.seg (Nat.le_refl _) hBe hKe Rp kr hkz hkl hne hz).mono ?_
    rintro ee w' ⟨kv2, hob, ln2, pu2, ⟨rfl, L', A', h⟩, kr', hs'⟩
    exact ⟨rfl, kx_seven hBK hBw A' h (in2 hK heR) hK kr' (fun g hg => .inl (hkR g (hob.symm.trans hg))) (fun z hm => hkz z (List.dropLast_subset _ hm)) hs'⟩
  · rw [show kX ⟨⟨true, 7, seg, looks, slot, w0, psh, pk, kept⟩, err⟩ M = (⟨⟨true, 7, seg, looks, slot, w0, (pushX psh M).1, pk, kept⟩, err⟩, (pushX psh M).2) by simp [kX, shrinkX, hz]]
    refine (sk7_on hBm hc S k hBK ok.seg (Nat.le_refl _) hBe hKe Rp kr hz).mono ?_
    rintro ee w' ⟨⟨rfl, L', A', h⟩, r, kr'⟩
    exact ⟨rfl, kx_part hBK A' h (in2 hK heR) (fun h => absurd h (by simp)) (by simp) (fun h => absurd h (by simp)) (fun _ => ⟨rfl, r⟩) hKe (fun _ => ⟨kr', fun g hg => .inl (hkR g hg)⟩) hK ⟨.inl heR, by obtain ⟨_, r0, _⟩ := r; exact r0.ownX hBe⟩⟩
theorem pkD_tidy9 {q : PO} (h : PkD B e k1 q w) : ∃ a, PkD B e a q w ∧ (a = e ∨ a = k1) ∧ OwnX B e w ∧ OwnX B a w ∧ ∃ t cs, Bk a t cs w ∧ t ≠ 3 := by
  obtain ⟨hK, hk, pu, k, h10⟩ := h
  have oK : OwnX B e w := ⟨hK, _, _, k, by decide⟩
  by_cases hh : q.ln = 10
  · obtain ⟨e1, nn, R, e2⟩ := h10 hh
    exact ⟨k1, ⟨hK, hk, pu, k, h10⟩, .inr rfl, oK, R.ownX hk, _, _, R, by decide⟩
  · exact ⟨e, ⟨hK, hK, pu, k, fun h => absurd h hh⟩, .inl rfl, oK, oK, _, _, k, by decide⟩
theorem ks6 (hBm : B ≤ m) (hc : c ≤ 4900) (S : Say p m b n D L c M w) (ok : KNum ⟨⟨true, 6, seg, looks, slot, w0, psh, pk, kept⟩, err⟩) (hBK : B ≤ K) (hK : K ∈ R) (heR : e ∈ R) (hk1R : k1 ∈ R) (hKe : K ≠ e ∧ K ≠ k1) (Rp : PkD B e k1 pk w)
    (k : Bk K 108 (OpC true 6 err seg looks sl w0 bh pp (some ⟨e, 0, none⟩) pu kv) w) (kr : KeptAt B kv kept w) (hkR : ∀ g, kv.ownBlock = some g → g ∈ R) :
    Calls Tryz.prog 72 #[.pointer (some ⟨K, 0, none⟩), .pointer (some ⟨b, 0, none⟩)] w fun ee w' => ee = .returned (.tuple #[]) ∧ KxP B p m b n c D M.s K R (kX ⟨⟨true, 6, seg, looks, slot, w0, psh, pk, kept⟩, err⟩ M) w w' := by
  have hBw : B ≤ w.heap.size := Nat.le_trans hBm S.pr.m_le
  obtain ⟨a, Ra, ha, oe, oa, hint⟩ := pkD_tidy9 Rp
  have haR : a ∈ R := by rcases ha with h | h <;> rw [h] <;> assumption
  have hKa : K ≠ a := by
    rcases ha with h | h
    · rw [h]; exact hKe.1
    · rw [h]; exact hKe.2
  by_cases hz : (parkX pk M).1.ln = 0
  · rw [show kX ⟨⟨true, 6, seg, looks, slot, w0, psh, pk, kept⟩, err⟩ M = (⟨⟨true, 5, seg, looks, slot, w0, ⟨1, 0, 0⟩, (parkX pk M).1, kept⟩, err⟩, (parkX pk M).2) by simp [kX, shrinkX, hz]]
    refine (sk6_end hBm hc S k hBK ok.seg (Nat.le_refl _) (ok.pk rfl).1 Ra ⟨hKe.1, hKa⟩ hint kr hz).mono ?_
    rintro ee w' ⟨e2, ⟨rfl, L', A', h⟩, r, hle, hKe2, kr'⟩
    exact ⟨rfl, kx_part hBK A' h (in3 hK heR haR) (fun h => absurd h (by simp)) (by simp) (fun _ => ⟨rfl, popD_new r⟩) (fun h => absurd h (by simp)) hKe2 (fun _ => ⟨kr', fun g hg => .inl (hkR g hg)⟩) hK ⟨.inr hle, r.ownX (by omega)⟩⟩
  · rw [show kX ⟨⟨true, 6, seg, looks, slot, w0, psh, pk, kept⟩, err⟩ M = (⟨⟨true, 6, seg, looks, slot, w0, psh, (parkX pk M).1, kept⟩, err⟩, (parkX pk M).2) by simp [kX, shrinkX, hz]]
    refine (sk6_on hBm hc S k hBK ok.seg (Nat.le_refl _) (ok.pk rfl).1 Ra ⟨hKe.1, hKa⟩ hint kr hz).mono ?_
    rintro ee w' ⟨⟨rfl, L', A', h⟩, ⟨e7, r7, h7, hK7⟩, kr'⟩
    obtain ⟨a2, Ra2, ha2, oe2, oa2, _⟩ := pkD_tidy9 r7
    have hKa2 : K ≠ a2 := by
      rcases ha2 with h | h
      · rw [h]; exact hKe.1
      · rw [h]; exact hK7
    have haR2 : a2 ∈ R ∨ w.heap.size ≤ a2 := by
      rcases ha2 with h | h
      · rw [h]; exact .inl heR
      · rw [h]; exact h7.imp (fun q => by rw [q]; exact haR) id
    exact ⟨rfl, kx_fin (e := e) (k1 := a2) hBK A' h (in3 hK heR haR) (fun h => absurd h (by simp)) (fun h => absurd h (by simp)) (fun _ => ⟨rfl, ⟨hKe.1, hKa2⟩, Ra2⟩) (fun h => absurd h (by simp)) (fun _ => ⟨kr', fun g hg => .inl (hkR g hg)⟩) hK ⟨.inl heR, oe2⟩ ⟨haR2, oa2⟩⟩
theorem kx_doc (hBm : B ≤ m) (hc : c ≤ 4900) (S : Say p m b n D L c M w) (ok : KNum o) (d : KxD B K R o w) (own : ∀ y ∈ R, OwnX B y w) :
    Calls Tryz.prog 34 #[.pointer (some ⟨K, 0, none⟩), .pointer (some ⟨b, 0, none⟩)] w fun ee w' => ee = .returned (.tuple #[]) ∧ KxP B p m b n c D M.s K R (kX o M) w w' := by
  have hBw : B ≤ w.heap.size := Nat.le_trans hBm S.pr.m_le
  obtain ⟨hBK, sl, bh, pp, pa, pu, e, k1, kv, hR, k, h11, h5, h6, h7, hkr⟩ := d
  have hK : K ∈ R := by rw [hR]; simp
  have heR : e ∈ R := by rw [hR]; simp
  have hk1R : k1 ∈ R := by rw [hR]; simp
  have hkR : 1 ≤ o.k.ln ∧ o.k.ln ≤ 8 → ∀ g, kv.ownBlock = some g → g ∈ R := fun hl g hg => by rw [hR, if_pos hl]; simp [hg]
  clear hR
  by_cases h0 : o.k.ln = 0
  · have e0 : kX o M = (o, M) := by
      unfold kX
      rw [if_neg (by omega)]
      split
      · simp [growX, h0]
      · simp [shrinkX, h0]
    rw [e0]
    have hfin : ∀ w', w' = w → KxP B p m b n c D M.s K R (o, M) w w' := by
      rintro w' rfl
      exact kx_idle hBK S.aft (OD.start (E := []) k S.pr hBw) (fun x hx => by cases hx) (fun h => by omega) (by omega) (fun h => by omega) hK
    obtain ⟨⟨sh, ln, seg, looks, slot, w0, psh, pk, kept⟩, err⟩ := o
    simp only at h0
    subst h0
    cases sh
    · refine (st_no k rfl).mono ?_
      rintro ee w' ⟨rfl, q⟩
      exact ⟨rfl, hfin w' q⟩
    · refine st_shrink k (by show ¬ (11:Int) ≤ 0; decide) ((sk_no k).mono ?_)
      rintro ee w' ⟨rfl, q⟩
      exact ⟨rfl, hfin w' q⟩
  · obtain ⟨⟨sh, ln, seg, looks, slot, w0, psh, pk, kept⟩, err⟩ := o
    simp only at h0 k h11 h5 h6 h7 hkr hkR
    have hln := ok.ln
    simp only at hln
    by_cases hl : 11 ≤ ln
    · obtain ⟨rfl, rfl⟩ := h11 hl
      refine st_turn k hl ?_
      obtain rfl | rfl | rfl | rfl | rfl : ln = 11 ∨ ln = 12 ∨ ln = 13 ∨ ln = 14 ∨ ln = 15 := by omega
      · exact kt11 hBm hc S ok hBK hK k
      · exact kt12 hBm hc S ok hBK hK k
      · exact kt13 hBm hc S ok hBK hK k
      · exact kt14 hBm hc S ok hBK hK k
      · obtain ⟨rfl, ⟨hBe, hKe⟩, r⟩ := h7 (.inr rfl)
        exact kt15 hBm hc S ok hBK hK heR hBe hKe r k
    · have hkr' := hkr (by omega)
      have hkR' := hkR (by omega)
      cases sh
      · have hgr := ok.gr rfl
        simp only at hgr
        obtain rfl | rfl : ln = 1 ∨ ln = 2 := by omega
        · exact kg1 hBm hc S ok hBK hK k hkr' hkR'
        · exact kg2 hBm hc S ok hBK hK k hkr' hkR'
      · refine st_shrink k hl ?_
        obtain rfl | rfl | rfl | rfl | rfl | rfl | rfl | rfl : ln = 1 ∨ ln = 2 ∨ ln = 3 ∨ ln = 4 ∨ ln = 5 ∨ ln = 6 ∨ ln = 7 ∨ ln = 8 := by omega
        · exact ks1 hBm hc S ok hBK hK k hkr' hkR'
        · exact ks2 hBm hc S ok hBK hK k hkr' hkR'
        · exact ks3 hBm hc S ok hBK hK k hkr' hkR'
        · exact ks4 hBm hc S ok hBK hK k hkr' hkR'
        · obtain ⟨rfl, ⟨hBe, hKe⟩, r⟩ := h5 rfl
          exact ks5 hBm hc S ok hBK hK heR hBe hKe r k hkr' hkR'
        · obtain ⟨rfl, hKe, r⟩ := h6 rfl
          exact ks6 hBm hc S ok hBK hK heR hk1R hKe r k hkr' hkR'
        · obtain ⟨rfl, ⟨hBe, hKe⟩, r⟩ := h7 (.inl rfl)
          exact ks7 hBm hc S ok hBK hK heR hBe hKe r k hkr' hkR'
        · exact ks8 hBm hc S ok hBK hK k hkr' hkR'
end
end Go.Proofs.YtmjcbjcnmgleaaaGreatDoor
