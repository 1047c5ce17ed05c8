/-
  The document's Grow and Shrink of layer 9 in plain words; conditions as each theorem says.
-/
import Derived.Test.YtmjcbjcnmgleaaaGreatDoorXP44
import Derived.Test.YtmjcbjcnmgleaaaGreatDoorXP41
namespace Go.Proofs.YtmjcbjcnmgleaaaGreatDoor
open Go.RowKit Go.Maps
def okT (t : TypeId) : Bool := !(t == 121 || t == 118 || t == 103 || t == 28 || t == 45 || t == 38)
def OwnX (B x : Nat) (w : World) : Prop := B ≤ x ∧ ∃ t cs, Bq x t cs w ∧ okT t = true
def KxD (B K : Nat) (R : List Nat) (o : KX) (w : World) : Prop := B ≤ K ∧ ∃ sl bh pp pa pu e k1 kv,
  R = K :: e :: k1 :: (if 1 ≤ o.k.ln ∧ o.k.ln ≤ 8 then kv.ownBlock.toList else []) ∧
  Bk K 108 (OpC o.k.sh o.k.ln o.err o.k.seg o.k.looks sl o.k.w bh pp pa pu kv) w ∧
  (11 ≤ o.k.ln → sl = o.k.slot ∧ bh = if o.k.sh = true then 9 else 0) ∧
  (o.k.ln = 5 → pp = some ⟨e, 0, none⟩ ∧ (B ≤ e ∧ K ≠ e) ∧ PopD e o.k.psh w) ∧
  (o.k.ln = 6 → pa = some ⟨e, 0, none⟩ ∧ (K ≠ e ∧ K ≠ k1) ∧ PkD B e k1 o.k.pk w) ∧
  (o.k.ln = 7 ∨ o.k.ln = 15 → pu = some ⟨e, 0, none⟩ ∧ (B ≤ e ∧ K ≠ e) ∧ PushD e o.k.psh w) ∧
  (1 ≤ o.k.ln ∧ o.k.ln ≤ 8 → KeptAt B kv o.k.kept w)
def KxP (B p m b n c : Nat) (D : DataW Unit) (s : Acc8) (K : Nat) (R : List Nat) (Q : KX × MV) (w w' : World) : Prop :=
  ∃ L' R', AftP L' (c + 1) Q.2 ∧ KxD B K R' Q.1 w' ∧ Pr p m b n D s L' Q.2.s w' ∧ FxL B p b R w w' ∧ ∀ y ∈ R', (y ∈ R ∨ w.heap.size ≤ y) ∧ OwnX B y w'
section
variable {B p m b n K c e k1 : Nat} {sh : Bool} {ln er sg lk sl bh seg looks slot w0 err : Int} {psh : OS} {pk : PO} {kept : List Int} {pp pa pu : Option Addr} {kv : Value} {D : DataW Unit} {s : Acc8} {L L' : List (Ad × Int)} {M M' : MV} {E R : List Nat} {w w' : World} {o' : KX}
theorem KeptAt.ownX (h : KeptAt B kv kept w) {g : Nat} (hg : kv.ownBlock = some g) : OwnX B g w := by
  obtain ⟨h1, cur, h2⟩ := h.lt hg
  exact ⟨h1, 3, cur.toList, by unfold Bq; simpa using h2, by decide⟩
theorem RefAt.ownX {ps got : Bool} {sl' ln' h nn : Int} (r : RefAt e ps sl' ln' got h nn w) (he : B ≤ e) : OwnX B e w := ⟨he, _, _, by unfold Bq; exact r, by decide⟩
theorem kx_fin (hBK : B ≤ K) (hA : AftP L' (c + 1) M') (h : OD B p m b n D s K E (OpC o'.k.sh o'.k.ln o'.err o'.k.seg o'.k.looks sl o'.k.w bh pp pa pu kv) L' M'.s w w') (hE : ∀ x ∈ E, x ∈ R)
    (h11 : 11 ≤ o'.k.ln → sl = o'.k.slot ∧ bh = if o'.k.sh = true then 9 else 0)
    (h5 : o'.k.ln = 5 → pp = some ⟨e, 0, none⟩ ∧ (B ≤ e ∧ K ≠ e) ∧ PopD e o'.k.psh w')
    (h6 : o'.k.ln = 6 → pa = some ⟨e, 0, none⟩ ∧ (K ≠ e ∧ K ≠ k1) ∧ PkD B e k1 o'.k.pk w')
    (h7 : o'.k.ln = 7 ∨ o'.k.ln = 15 → pu = some ⟨e, 0, none⟩ ∧ (B ≤ e ∧ K ≠ e) ∧ PushD e o'.k.psh w')
    (hkr : 1 ≤ o'.k.ln ∧ o'.k.ln ≤ 8 → KeptAt B kv o'.k.kept w' ∧ ∀ g, kv.ownBlock = some g → g ∈ R ∨ w.heap.size ≤ g)
    (hK : K ∈ R) (he : (e ∈ R ∨ w.heap.size ≤ e) ∧ OwnX B e w') (hk1 : (k1 ∈ R ∨ w.heap.size ≤ k1) ∧ OwnX B k1 w') : KxP B p m b n c D s K R (o', M') w w' := by
  refine ⟨L', _, hA, ⟨hBK, sl, bh, pp, pa, pu, e, k1, kv, rfl, h.k, h11, h5, h6, h7, fun hl => (hkr hl).1⟩, h.pr, h.f.more hE, fun y hy => ?_⟩
  simp only [List.mem_cons] at hy
  rcases hy with rfl | rfl | rfl | hy
  · exact ⟨.inl hK, hBK, _, _, h.k, by decide⟩
  · exact he
  · exact hk1
  · by_cases hl : 1 ≤ o'.k.ln ∧ o'.k.ln ≤ 8
    · rw [if_pos hl, Option.mem_toList] at hy
      exact ⟨(hkr hl).2 y hy, (hkr hl).1.ownX hy⟩
    · rw [if_neg hl] at hy
      cases hy
theorem kx_idle (hBK : B ≤ K) (hA : AftP L' (c + 1) M') (h : OD B p m b n D s K E (OpC o'.k.sh o'.k.ln o'.err o'.k.seg o'.k.looks sl o'.k.w bh pp pa pu kv) L' M'.s w w') (hE : ∀ x ∈ E, x ∈ R)
    (h11 : 11 ≤ o'.k.ln → sl = o'.k.slot ∧ bh = if o'.k.sh = true then 9 else 0) (hno : o'.k.ln ≠ 5 ∧ o'.k.ln ≠ 6 ∧ o'.k.ln ≠ 7 ∧ o'.k.ln ≠ 15)
    (hkr : 1 ≤ o'.k.ln ∧ o'.k.ln ≤ 8 → KeptAt B kv o'.k.kept w' ∧ ∀ g, kv.ownBlock = some g → g ∈ R ∨ w.heap.size ≤ g) (hK : K ∈ R) : KxP B p m b n c D s K R (o', M') w w' :=
  kx_fin (e := K) (k1 := K) hBK hA h hE h11 (fun h => absurd h hno.1) (fun h => absurd h hno.2.1) (fun h => absurd h (by omega)) hkr hK ⟨.inl hK, hBK, _, _, h.k, by decide⟩ ⟨.inl hK, hBK, _, _, h.k, by decide⟩
theorem kx_part (hBK : B ≤ K) (hA : AftP L' (c + 1) M') (h : OD B p m b n D s K E (OpC o'.k.sh o'.k.ln o'.err o'.k.seg o'.k.looks sl o'.k.w bh pp pa pu kv) L' M'.s w w') (hE : ∀ x ∈ E, x ∈ R)
    (h11 : 11 ≤ o'.k.ln → sl = o'.k.slot ∧ bh = if o'.k.sh = true then 9 else 0) (hn6 : o'.k.ln ≠ 6)
    (h5 : o'.k.ln = 5 → pp = some ⟨e, 0, none⟩ ∧ PopD e o'.k.psh w') (h7 : o'.k.ln = 7 ∨ o'.k.ln = 15 → pu = some ⟨e, 0, none⟩ ∧ PushD e o'.k.psh w') (hKe : K ≠ e)
    (hkr : 1 ≤ o'.k.ln ∧ o'.k.ln ≤ 8 → KeptAt B kv o'.k.kept w' ∧ ∀ g, kv.ownBlock = some g → g ∈ R ∨ w.heap.size ≤ g) (hK : K ∈ R) (he : (e ∈ R ∨ w.heap.size ≤ e) ∧ OwnX B e w') : KxP B p m b n c D s K R (o', M') w w' :=
  kx_fin (k1 := K) hBK hA h hE h11 (fun hl => ⟨(h5 hl).1, ⟨he.2.1, hKe⟩, (h5 hl).2⟩) (fun h => absurd h hn6) (fun hl => ⟨(h7 hl).1, ⟨he.2.1, hKe⟩, (h7 hl).2⟩) hkr hK he ⟨.inl hK, hBK, _, _, h.k, by decide⟩
theorem kx_next (hBK : B ≤ K) (hA : AftP L' (c + 1) M') (h : OD B p m b n D s K E (NxC sh err seg looks slot w0 bh pp pa pu kv) L' M'.s w w') (hE : ∀ x ∈ E, x ∈ R) (hbh : bh = if sh = true then 9 else 0) (hK : K ∈ R) :
    KxP B p m b n c D s K R (KO.nextE ⟨sh, ln, seg, looks, slot, w0, psh, pk, kept⟩ err, M') w w' := by
  unfold NxC at h
  unfold KO.nextE KO.next
  by_cases q : slot + 1 = 8 * seg + 8
  · simp only [if_pos q] at h ⊢
    exact kx_idle hBK hA (by rw [← hbh]; exact h) hE (fun h => absurd h (by simp)) (by simp) (fun h => absurd h (by simp)) hK
  · simp only [if_neg q] at h ⊢
    exact kx_idle hBK hA h hE (fun _ => ⟨rfl, hbh⟩) (by simp) (fun h => absurd h (by simp)) hK
theorem in2 {R : List Nat} {K e : Nat} (hK : K ∈ R) (he : e ∈ R) : ∀ x ∈ [K, e], x ∈ R := fun x hx => (List.mem_cons.1 hx).elim (fun h => by rw [h]; exact hK) fun h => by rw [List.mem_singleton.1 h]; exact he
theorem in3 {R : List Nat} {K e k1 : Nat} (hK : K ∈ R) (he : e ∈ R) (h1 : k1 ∈ R) : ∀ x ∈ [K, e, k1], x ∈ R := fun x hx => (List.mem_cons.1 hx).elim (fun h => by rw [h]; exact hK) (in2 he h1 x)
theorem kr_keep (kr : KeptAt B kv kept w) (S : Say p m b n D L c M w) (f : FxL B p b [K] w w') (k : Bk K 108 (OpC sh ln er sg lk sl bh err pp pa pu kv) w) : KeptAt B kv kept w' := kr.fxl S.pr f fun x hx => by rw [List.mem_singleton.1 hx]; exact ⟨_, _, k, by decide⟩
theorem kt11 (hBm : B ≤ m) (hc : c ≤ 4900) (S : Say p m b n D L c M w) (ok : KNum ⟨⟨sh, 11, seg, looks, slot, w0, psh, pk, kept⟩, err⟩) (hBK : B ≤ K) (hK : K ∈ R) (k : Bk K 108 (OpC sh 11 err seg looks slot w0 (if sh = true then 9 else 0) pp pa pu kv) w) :
    Calls Tryz.prog 66 #[.pointer (some ⟨K, 0, none⟩), .pointer (some ⟨b, 0, none⟩)] w fun ee w' => ee = .returned (.tuple #[]) ∧ KxP B p m b n c D M.s K R (kX ⟨⟨sh, 11, seg, looks, slot, w0, psh, pk, kept⟩, err⟩ M) w w' := by
  have hsl : 0 ≤ slot ∧ slot < 256 := by have h1 := ok.slot (by decide : (11 : Int) ≤ 11); have h2 := ok.seg; simp only at h1 h2; omega
  obtain ⟨v, hv⟩ : ∃ v, M.V (adH slot) = v := ⟨_, rfl⟩
  by_cases hp : stW v = 3
  · rw [show kX ⟨⟨sh, 11, seg, looks, slot, w0, psh, pk, kept⟩, err⟩ M = (⟨⟨sh, 12, seg, looks, slot, v, psh, pk, kept⟩, err⟩, ldM M (adH slot)) by simp [kX, turnX, hv, hp]]
    refine (tn_a_yes hBm hc S k hBK ok.w ok.seg hsl hv hp).mono ?_
    rintro ee w' ⟨rfl, L', A', h⟩
    exact ⟨rfl, kx_idle hBK A' h (fun x hx => by rw [List.mem_singleton.1 hx]; exact hK) (fun _ => ⟨rfl, rfl⟩) (by simp) (fun h => absurd h (by simp)) hK⟩
  · rw [show kX ⟨⟨sh, 11, seg, looks, slot, w0, psh, pk, kept⟩, err⟩ M = (KO.nextE ⟨sh, 11, seg, looks, slot, v, psh, pk, kept⟩ err, ldM M (adH slot)) by simp [kX, turnX, hv, hp]]
    refine (tn_a_no hBm hc S k hBK ok.w ok.seg hsl hv hp).mono ?_
    rintro ee w' ⟨rfl, L', A', h⟩
    exact ⟨rfl, kx_next hBK A' h (fun x hx => by rw [List.mem_singleton.1 hx]; exact hK) rfl hK⟩
theorem kt12 (hBm : B ≤ m) (hc : c ≤ 4900) (S : Say p m b n D L c M w) (ok : KNum ⟨⟨sh, 12, seg, looks, slot, w0, psh, pk, kept⟩, err⟩) (hBK : B ≤ K) (hK : K ∈ R) (k : Bk K 108 (OpC sh 12 err seg looks slot w0 (if sh = true then 9 else 0) pp pa pu kv) w) :
    Calls Tryz.prog 66 #[.pointer (some ⟨K, 0, none⟩), .pointer (some ⟨b, 0, none⟩)] w fun ee w' => ee = .returned (.tuple #[]) ∧ KxP B p m b n c D M.s K R (kX ⟨⟨sh, 12, seg, looks, slot, w0, psh, pk, kept⟩, err⟩ M) w w' := by
  have hsl : 0 ≤ slot ∧ slot < 256 := by have h1 := ok.slot (by decide : (11 : Int) ≤ 12); have h2 := ok.seg; simp only at h1 h2; omega
  by_cases hq : casV M.V (adH slot) w0 = true
  · rw [show kX ⟨⟨sh, 12, seg, looks, slot, w0, psh, pk, kept⟩, err⟩ M = (⟨⟨sh, 13, seg, looks, slot, w0, psh, pk, kept⟩, err⟩, csM M (adH slot) w0 (headerW 0 (gW w0))) by simp [kX, turnX, hq]]
    refine (tn_b_yes hBm hc S k hBK ok.w ok.seg hsl hq).mono ?_
    rintro ee w' ⟨rfl, L', A', h⟩
    exact ⟨rfl, kx_idle hBK A' h (fun x hx => by rw [List.mem_singleton.1 hx]; exact hK) (fun _ => ⟨rfl, rfl⟩) (by simp) (fun h => absurd h (by simp)) hK⟩
  · rw [show kX ⟨⟨sh, 12, seg, looks, slot, w0, psh, pk, kept⟩, err⟩ M = (KO.nextE ⟨sh, 12, seg, looks, slot, w0, psh, pk, kept⟩ err, csM M (adH slot) w0 (headerW 0 (gW w0))) by simp [kX, turnX, hq]]
    refine (tn_b_no hBm hc S k hBK ok.w ok.seg hsl (by simpa using hq)).mono ?_
    rintro ee w' ⟨rfl, L', A', h⟩
    exact ⟨rfl, kx_next hBK A' h (fun x hx => by rw [List.mem_singleton.1 hx]; exact hK) rfl hK⟩
theorem kt13 (hBm : B ≤ m) (hc : c ≤ 4900) (S : Say p m b n D L c M w) (ok : KNum ⟨⟨sh, 13, seg, looks, slot, w0, psh, pk, kept⟩, err⟩) (hBK : B ≤ K) (hK : K ∈ R) (k : Bk K 108 (OpC sh 13 err seg looks slot w0 (if sh = true then 9 else 0) pp pa pu kv) w) :
    Calls Tryz.prog 66 #[.pointer (some ⟨K, 0, none⟩), .pointer (some ⟨b, 0, none⟩)] w fun ee w' => ee = .returned (.tuple #[]) ∧ KxP B p m b n c D M.s K R (kX ⟨⟨sh, 13, seg, looks, slot, w0, psh, pk, kept⟩, err⟩ M) w w' := by
  have hsl : 0 ≤ slot ∧ slot < 256 := by have h1 := ok.slot (by decide : (11 : Int) ≤ 13); have h2 := ok.seg; simp only at h1 h2; omega
  rw [show kX ⟨⟨sh, 13, seg, looks, slot, w0, psh, pk, kept⟩, err⟩ M = (⟨⟨sh, 14, seg, looks, slot, M.V (adP seg), psh, pk, kept⟩, err⟩, ldM M (adP seg)) by simp [kX, turnX]]
  refine (tn_c hBm hc S k hBK ok.w ok.seg hsl rfl).mono ?_
  rintro ee w' ⟨rfl, L', A', h⟩
  exact ⟨rfl, kx_idle hBK A' h (fun x hx => by rw [List.mem_singleton.1 hx]; exact hK) (fun _ => ⟨rfl, rfl⟩) (by simp) (fun h => absurd h (by simp)) hK⟩
theorem kt14 (hBm : B ≤ m) (hc : c ≤ 4900) (S : Say p m b n D L c M w) (ok : KNum ⟨⟨sh, 14, seg, looks, slot, w0, psh, pk, kept⟩, err⟩) (hBK : B ≤ K) (hK : K ∈ R) (k : Bk K 108 (OpC sh 14 err seg looks slot w0 (if sh = true then 9 else 0) pp pa pu kv) w) :
    Calls Tryz.prog 66 #[.pointer (some ⟨K, 0, none⟩), .pointer (some ⟨b, 0, none⟩)] w fun ee w' => ee = .returned (.tuple #[]) ∧ KxP B p m b n c D M.s K R (kX ⟨⟨sh, 14, seg, looks, slot, w0, psh, pk, kept⟩, err⟩ M) w w' := by
  have hsl : 0 ≤ slot ∧ slot < 256 := by have h1 := ok.slot (by decide : (11 : Int) ≤ 14); have h2 := ok.seg; simp only at h1 h2; omega
  by_cases hq : casV M.V (adP seg) w0 = true
  · rw [show kX ⟨⟨sh, 14, seg, looks, slot, w0, psh, pk, kept⟩, err⟩ M = (⟨⟨sh, 15, seg, looks, slot, w0, ⟨1, 0, slot⟩, pk, kept⟩, err⟩, csM M (adP seg) w0 (down64 w0)) by simp [kX, turnX, hq]]
    refine (tn_d_yes hBm hc S k hBK ok.w ok.seg hsl (Nat.le_refl _) hq).mono ?_
    rintro ee w' ⟨e, ⟨rfl, L', A', h⟩, r, hle, hKe⟩
    exact ⟨rfl, kx_part hBK A' h (fun x hx => by rw [List.mem_singleton.1 hx]; exact hK) (fun _ => ⟨rfl, rfl⟩) (by simp) (fun h => absurd h (by simp)) (fun _ => ⟨rfl, 0, r, u64_0, u64_0, by simp, hsl⟩) hKe (fun h => absurd h (by simp)) hK ⟨.inr hle, r.ownX (by have := S.pr.m_le; omega)⟩⟩
  · rw [show kX ⟨⟨sh, 14, seg, looks, slot, w0, psh, pk, kept⟩, err⟩ M = (⟨⟨sh, 13, seg, looks, slot, w0, psh, pk, kept⟩, err⟩, csM M (adP seg) w0 (down64 w0)) by simp [kX, turnX, hq]]
    refine (tn_d_no hBm hc S k hBK ok.w ok.seg hsl (by simpa using hq)).mono ?_
    rintro ee w' ⟨rfl, L', A', h⟩
    exact ⟨rfl, kx_idle hBK A' h (fun x hx => by rw [List.mem_singleton.1 hx]; exact hK) (fun _ => ⟨rfl, rfl⟩) (by simp) (fun h => absurd h (by simp)) hK⟩
theorem kt15 (hBm : B ≤ m) (hc : c ≤ 4900) (S : Say p m b n D L c M w) (ok : KNum ⟨⟨sh, 15, seg, looks, slot, w0, psh, pk, kept⟩, err⟩) (hBK : B ≤ K) (hK : K ∈ R) (heR : e ∈ R) (hBe : B ≤ e) (hKe : K ≠ e) (Rp : PushD e psh w) (k : Bk K 108 (OpC sh 15 err seg looks slot w0 (if sh = true then 9 else 0) pp pa (some ⟨e, 0, none⟩) kv) w) :
    Calls Tryz.prog 66 #[.pointer (some ⟨K, 0, none⟩), .pointer (some ⟨b, 0, none⟩)] w fun ee w' => ee = .returned (.tuple #[]) ∧ KxP B p m b n c D M.s K R (kX ⟨⟨sh, 15, seg, looks, slot, w0, psh, pk, kept⟩, err⟩ M) w w' := by
  have hsl : 0 ≤ slot ∧ slot < 256 := by have h1 := ok.slot (by decide : (11 : Int) ≤ 15); have h2 := ok.seg; simp only at h1 h2; omega
  by_cases hz : (pushX psh M).1.nx = 0
  · rw [show kX ⟨⟨sh, 15, seg, looks, slot, w0, psh, pk, kept⟩, err⟩ M = (KO.nextE ⟨sh, 15, seg, looks, slot, w0, (pushX psh M).1, pk, kept⟩ err, (pushX psh M).2) by simp [kX, turnX, hz]]
    refine (tn_e_end hBm hc S k hBK ok.w ok.seg hsl hBe hKe Rp hz).mono ?_
    rintro ee w' ⟨⟨rfl, L', A', h⟩, _⟩
    exact ⟨rfl, kx_next hBK A' h (in2 hK heR) rfl hK⟩
  · rw [show kX ⟨⟨sh, 15, seg, looks, slot, w0, psh, pk, kept⟩, err⟩ M = (⟨⟨sh, 15, seg, looks, slot, w0, (pushX psh M).1, pk, kept⟩, err⟩, (pushX psh M).2) by simp [kX, turnX, hz]]
    refine (tn_e_on hBm hc S k hBK ok.w ok.seg hsl hBe hKe Rp hz).mono ?_
    rintro ee w' ⟨⟨rfl, L', A', h⟩, r⟩
    exact ⟨rfl, kx_part hBK A' h (in2 hK heR) (fun _ => ⟨rfl, rfl⟩) (by simp) (fun h => absurd h (by simp)) (fun _ => ⟨rfl, r⟩) hKe (fun h => absurd h (by simp)) hK ⟨.inl heR, by obtain ⟨_, r0, _⟩ := r; exact r0.ownX hBe⟩⟩
theorem kg1 (hBm : B ≤ m) (hc : c ≤ 4900) (S : Say p m b n D L c M w) (ok : KNum ⟨⟨false, 1, seg, looks, slot, w0, psh, pk, kept⟩, err⟩) (hBK : B ≤ K) (hK : K ∈ R) (k : Bk K 108 (OpC false 1 err seg looks sl w0 bh pp pa pu kv) w) (kr : KeptAt B kv kept w) (hkR : ∀ g, kv.ownBlock = some g → g ∈ R) :
    Calls Tryz.prog 34 #[.pointer (some ⟨K, 0, none⟩), .pointer (some ⟨b, 0, none⟩)] w fun ee w' => ee = .returned (.tuple #[]) ∧ KxP B p m b n c D M.s K R (kX ⟨⟨false, 1, seg, looks, slot, w0, psh, pk, kept⟩, err⟩ M) w w' := by
  obtain ⟨v, hv⟩ : ∃ v, M.V (adG seg) = v := ⟨_, rfl⟩
  by_cases h0 : v = 0
  · rw [show kX ⟨⟨false, 1, seg, looks, slot, w0, psh, pk, kept⟩, err⟩ M = (⟨⟨false, 2, seg, looks, slot, w0, psh, pk, kept⟩, err⟩, ldM M (adG seg)) by simp [kX, growX, hv, h0]]
    refine (gr1_on hBm hc S k hBK ok.seg hv (by omega) h0).mono ?_
    rintro ee w' ⟨rfl, L', A', h⟩
    exact ⟨rfl, kx_idle hBK A' h (fun x hx => by rw [List.mem_singleton.1 hx]; exact hK) (fun h => absurd h (by simp)) (by simp) (fun _ => ⟨kr_keep kr S h.f k, fun g hg => .inl (hkR g hg)⟩) hK⟩
  by_cases h1 : v = 1
  · rw [show kX ⟨⟨false, 1, seg, looks, slot, w0, psh, pk, kept⟩, err⟩ M = (⟨⟨false, 0, seg, looks, slot, w0, psh, pk, kept⟩, 8⟩, ldM M (adG seg)) by simp [kX, growX, hv, h1]]
    refine (gr1_same hBm hc S k hBK ok.seg hv h1).mono ?_
    rintro ee w' ⟨rfl, L', A', h⟩
    exact ⟨rfl, kx_idle hBK A' h (fun x hx => by rw [List.mem_singleton.1 hx]; exact hK) (fun h => absurd h (by simp)) (by simp) (fun h => absurd h (by simp)) hK⟩
  · rw [show kX ⟨⟨false, 1, seg, looks, slot, w0, psh, pk, kept⟩, err⟩ M = (⟨⟨false, 0, seg, looks, slot, w0, psh, pk, kept⟩, 7⟩, ldM M (adG seg)) by simp [kX, growX, hv, h0, h1]]
    refine (gr1_busy hBm hc S k hBK ok.seg hv h1 h0).mono ?_
    rintro ee w' ⟨rfl, L', A', h⟩
    exact ⟨rfl, kx_idle hBK A' h (fun x hx => by rw [List.mem_singleton.1 hx]; exact hK) (fun h => absurd h (by simp)) (by simp) (fun h => absurd h (by simp)) hK⟩
theorem kg2 (hBm : B ≤ m) (hc : c ≤ 4900) (S : Say p m b n D L c M w) (ok : KNum ⟨⟨false, 2, seg, looks, slot, w0, psh, pk, kept⟩, err⟩) (hBK : B ≤ K) (hK : K ∈ R) (k : Bk K 108 (OpC false 2 err seg looks sl w0 bh pp pa pu kv) w) (_kr : KeptAt B kv kept w) (_hkR : ∀ g, kv.ownBlock = some g → g ∈ R) :
    Calls Tryz.prog 34 #[.pointer (some ⟨K, 0, none⟩), .pointer (some ⟨b, 0, none⟩)] w fun ee w' => ee = .returned (.tuple #[]) ∧ KxP B p m b n c D M.s K R (kX ⟨⟨false, 2, seg, looks, slot, w0, psh, pk, kept⟩, err⟩ M) w w' := by
  by_cases hq : casV M.V (adG seg) 0 = true
  · rw [show kX ⟨⟨false, 2, seg, looks, slot, w0, psh, pk, kept⟩, err⟩ M = (⟨⟨false, 11, seg, looks, 8 * seg, w0, psh, pk, kept⟩, err⟩, csM M (adG seg) 0 1) by simp [kX, growX, KO.turn, hq]]
    refine (gr2_yes hBm hc S k hBK ok.seg hq).mono ?_
    rintro ee w' ⟨rfl, L', A', h⟩
    exact ⟨rfl, kx_idle hBK A' h (fun x hx => by rw [List.mem_singleton.1 hx]; exact hK) (fun _ => ⟨rfl, rfl⟩) (by simp) (fun h => absurd h (by simp)) hK⟩
  · rw [show kX ⟨⟨false, 2, seg, looks, slot, w0, psh, pk, kept⟩, err⟩ M = (⟨⟨false, 0, seg, looks, slot, w0, psh, pk, kept⟩, 7⟩, csM M (adG seg) 0 1) by simp [kX, growX, hq]]
    refine (gr2_no hBm hc S k hBK ok.seg (by simpa using hq)).mono ?_
    rintro ee w' ⟨rfl, L', A', h⟩
    exact ⟨rfl, kx_idle hBK A' h (fun x hx => by rw [List.mem_singleton.1 hx]; exact hK) (fun h => absurd h (by simp)) (by simp) (fun h => absurd h (by simp)) hK⟩
theorem ks1 (hBm : B ≤ m) (hc : c ≤ 4900) (S : Say p m b n D L c M w) (ok : KNum ⟨⟨true, 1, seg, looks, slot, w0, psh, pk, kept⟩, err⟩) (hBK : B ≤ K) (hK : K ∈ R) (k : Bk K 108 (OpC true 1 err seg looks sl w0 bh pp pa pu kv) w) (kr : KeptAt B kv kept w) (hkR : ∀ g, kv.ownBlock = some g → g ∈ R) :
    Calls Tryz.prog 72 #[.pointer (some ⟨K, 0, none⟩), .pointer (some ⟨b, 0, none⟩)] w fun ee w' => ee = .returned (.tuple #[]) ∧ KxP B p m b n c D M.s K R (kX ⟨⟨true, 1, seg, looks, slot, w0, psh, pk, kept⟩, err⟩ M) w w' := by
  obtain ⟨v, hv⟩ : ∃ v, M.V (adG seg) = v := ⟨_, rfl⟩
  by_cases h1 : v = 1
  · rw [show kX ⟨⟨true, 1, seg, looks, slot, w0, psh, pk, kept⟩, err⟩ M = (⟨⟨true, 2, seg, looks, slot, w0, psh, pk, kept⟩, err⟩, ldM M (adG seg)) by simp [kX, shrinkX, hv, h1]]
    refine (sk1_on hBm hc S k hBK ok.seg hv (by omega) h1).mono ?_
    rintro ee w' ⟨rfl, L', A', h⟩
    exact ⟨rfl, kx_idle hBK A' h (fun x hx => by rw [List.mem_singleton.1 hx]; exact hK) (fun h => absurd h (by simp)) (by simp) (fun _ => ⟨kr_keep kr S h.f k, fun g hg => .inl (hkR g hg)⟩) hK⟩
  by_cases h0 : v = 0
  · rw [show kX ⟨⟨true, 1, seg, looks, slot, w0, psh, pk, kept⟩, err⟩ M = (⟨⟨true, 0, seg, looks, slot, w0, psh, pk, kept⟩, 6⟩, ldM M (adG seg)) by simp [kX, shrinkX, hv, h0]]
    refine (sk1_none hBm hc S k hBK ok.seg hv h0).mono ?_
    rintro ee w' ⟨rfl, L', A', h⟩
    exact ⟨rfl, kx_idle hBK A' h (fun x hx => by rw [List.mem_singleton.1 hx]; exact hK) (fun h => absurd h (by simp)) (by simp) (fun h => absurd h (by simp)) hK⟩
  · rw [show kX ⟨⟨true, 1, seg, looks, slot, w0, psh, pk, kept⟩, err⟩ M = (⟨⟨true, 0, seg, looks, slot, w0, psh, pk, kept⟩, 7⟩, ldM M (adG seg)) by simp [kX, shrinkX, hv, h0, h1]]
    refine (sk1_busy hBm hc S k hBK ok.seg hv h0 h1).mono ?_
    rintro ee w' ⟨rfl, L', A', h⟩
    exact ⟨rfl, kx_idle hBK A' h (fun x hx => by rw [List.mem_singleton.1 hx]; exact hK) (fun h => absurd h (by simp)) (by simp) (fun h => absurd h (by simp)) hK⟩
theorem ks2 (hBm : B ≤ m) (hc : c ≤ 4900) (S : Say p m b n D L c M w) (ok : KNum ⟨⟨true, 2, seg, looks, slot, w0, psh, pk, kept⟩, err⟩) (hBK : B ≤ K) (hK : K ∈ R) (k : Bk K 108 (OpC true 2 err seg looks sl w0 bh pp pa pu kv) w) (kr : KeptAt B kv kept w) (hkR : ∀ g, kv.ownBlock = some g → g ∈ R) :
    Calls Tryz.prog 72 #[.pointer (some ⟨K, 0, none⟩), .pointer (some ⟨b, 0, none⟩)] w fun ee w' => ee = .returned (.tuple #[]) ∧ KxP B p m b n c D M.s K R (kX ⟨⟨true, 2, seg, looks, slot, w0, psh, pk, kept⟩, err⟩ M) w w' := by
  by_cases hq : casV M.V (adG seg) 1 = true
  · rw [show kX ⟨⟨true, 2, seg, looks, slot, w0, psh, pk, kept⟩, err⟩ M = (⟨⟨true, 3, seg, looks, slot, w0, psh, pk, kept⟩, err⟩, csM M (adG seg) 1 2) by simp [kX, shrinkX, hq]]
    refine (sk2_yes hBm hc S k hBK ok.seg hq).mono ?_
    rintro ee w' ⟨rfl, L', A', h⟩
    exact ⟨rfl, kx_idle hBK A' h (fun x hx => by rw [List.mem_singleton.1 hx]; exact hK) (fun h => absurd h (by simp)) (by simp) (fun _ => ⟨kr_keep kr S h.f k, fun g hg => .inl (hkR g hg)⟩) hK⟩
  · rw [show kX ⟨⟨true, 2, seg, looks, slot, w0, psh, pk, kept⟩, err⟩ M = (⟨⟨true, 0, seg, looks, slot, w0, psh, pk, kept⟩, 7⟩, csM M (adG seg) 1 2) by simp [kX, shrinkX, hq]]
    refine (sk2_no hBm hc S k hBK ok.seg (by simpa using hq)).mono ?_
    rintro ee w' ⟨rfl, L', A', h⟩
    exact ⟨rfl, kx_idle hBK A' h (fun x hx => by rw [List.mem_singleton.1 hx]; exact hK) (fun h => absurd h (by simp)) (by simp) (fun h => absurd h (by simp)) hK⟩
theorem ks4 (hBm : B ≤ m) (hc : c ≤ 4900) (S : Say p m b n D L c M w) (ok : KNum ⟨⟨true, 4, seg, looks, slot, w0, psh, pk, kept⟩, err⟩) (hBK : B ≤ K) (hK : K ∈ R) (k : Bk K 108 (OpC true 4 err seg looks sl w0 bh pp pa pu kv) w) (_kr : KeptAt B kv kept w) (_hkR : ∀ g, kv.ownBlock = some g → g ∈ R) :
    Calls Tryz.prog 72 #[.pointer (some ⟨K, 0, none⟩), .pointer (some ⟨b, 0, none⟩)] w fun ee w' => ee = .returned (.tuple #[]) ∧ KxP B p m b n c D M.s K R (kX ⟨⟨true, 4, seg, looks, slot, w0, psh, pk, kept⟩, err⟩ M) w w' := by
  by_cases hq : casV M.V (adG seg) 2 = true
  · rw [show kX ⟨⟨true, 4, seg, looks, slot, w0, psh, pk, kept⟩, err⟩ M = (⟨⟨true, 0, seg, looks, slot, w0, psh, pk, kept⟩, 0⟩, csM M (adG seg) 2 0) by simp [kX, shrinkX, hq]]
    refine (sk4_yes hBm hc S k hBK ok.seg hq).mono ?_
    rintro ee w' ⟨rfl, L', A', h⟩
    exact ⟨rfl, kx_idle hBK A' h (fun x hx => by rw [List.mem_singleton.1 hx]; exact hK) (fun h => absurd h (by simp)) (by simp) (fun h => absurd h (by simp)) hK⟩
  · rw [show kX ⟨⟨true, 4, seg, looks, slot, w0, psh, pk, kept⟩, err⟩ M = (⟨⟨true, 0, seg, looks, slot, w0, psh, pk, kept⟩, 7⟩, csM M (adG seg) 2 0) by simp [kX, shrinkX, hq]]
    refine (sk4_no hBm hc S k hBK ok.seg (by simpa using hq)).mono ?_
    rintro ee w' ⟨rfl, L', A', h⟩
    exact ⟨rfl, kx_idle hBK A' h (fun x hx => by rw [List.mem_singleton.1 hx]; exact hK) (fun h => absurd h (by simp)) (by simp) (fun h => absurd h (by simp)) hK⟩
theorem ks8 (hBm : B ≤ m) (hc : c ≤ 4900) (S : Say p m b n D L c M w) (ok : KNum ⟨⟨true, 8, seg, looks, slot, w0, psh, pk, kept⟩, err⟩) (hBK : B ≤ K) (hK : K ∈ R) (k : Bk K 108 (OpC true 8 err seg looks sl w0 bh pp pa pu kv) w) (_kr : KeptAt B kv kept w) (_hkR : ∀ g, kv.ownBlock = some g → g ∈ R) :
    Calls Tryz.prog 72 #[.pointer (some ⟨K, 0, none⟩), .pointer (some ⟨b, 0, none⟩)] w fun ee w' => ee = .returned (.tuple #[]) ∧ KxP B p m b n c D M.s K R (kX ⟨⟨true, 8, seg, looks, slot, w0, psh, pk, kept⟩, err⟩ M) w w' := by
  by_cases hq : casV M.V (adG seg) 2 = true
  · rw [show kX ⟨⟨true, 8, seg, looks, slot, w0, psh, pk, kept⟩, err⟩ M = (⟨⟨true, 11, seg, looks, 8 * seg, w0, psh, pk, kept⟩, err⟩, csM M (adG seg) 2 1) by simp [kX, shrinkX, KO.turn, hq]]
    refine (sk8_yes hBm hc S k hBK ok.seg hq).mono ?_
    rintro ee w' ⟨rfl, L', A', h⟩
    exact ⟨rfl, kx_idle hBK A' h (fun x hx => by rw [List.mem_singleton.1 hx]; exact hK) (fun _ => ⟨rfl, rfl⟩) (by simp) (fun h => absurd h (by simp)) hK⟩
  · rw [show kX ⟨⟨true, 8, seg, looks, slot, w0, psh, pk, kept⟩, err⟩ M = (⟨⟨true, 0, seg, looks, slot, w0, psh, pk, kept⟩, 7⟩, csM M (adG seg) 2 1) by simp [kX, shrinkX, hq]]
    refine (sk8_no hBm hc S k hBK ok.seg (by simpa using hq)).mono ?_
    rintro ee w' ⟨rfl, L', A', h⟩
    exact ⟨rfl, kx_idle hBK A' h (fun x hx => by rw [List.mem_singleton.1 hx]; exact hK) (fun h => absurd h (by simp)) (by simp) (fun h => absurd h (by simp)) hK⟩
theorem ks3 (hBm : B ≤ m) (hc : c ≤ 4900) (S : Say p m b n D L c M w) (ok : KNum ⟨⟨true, 3, seg, looks, slot, w0, psh, pk, kept⟩, err⟩) (hBK : B ≤ K) (hK : K ∈ R) (k : Bk K 108 (OpC true 3 err seg looks sl w0 bh pp pa pu kv) w) (kr : KeptAt B kv kept w) (hkR : ∀ g, kv.ownBlock = some g → g ∈ R) :
    Calls Tryz.prog 72 #[.pointer (some ⟨K, 0, none⟩), .pointer (some ⟨b, 0, none⟩)] w fun ee w' => ee = .returned (.tuple #[]) ∧ KxP B p m b n c D M.s K R (kX ⟨⟨true, 3, seg, looks, slot, w0, psh, pk, kept⟩, err⟩ M) w w' := by
  obtain ⟨v, hv⟩ : ∃ v, M.V (adP seg) = v := ⟨_, rfl⟩
  by_cases h8 : v = 8
  · rw [show kX ⟨⟨true, 3, seg, looks, slot, w0, psh, pk, kept⟩, err⟩ M = (⟨⟨true, 4, seg, looks, slot, w0, psh, pk, kept⟩, err⟩, ldM M (adP seg)) by simp [kX, shrinkX, hv, h8]]
    refine (sk3_all hBm hc S k hBK ok.seg hv h8).mono ?_
    rintro ee w' ⟨rfl, L', A', h⟩
    exact ⟨rfl, kx_idle hBK A' h (fun x hx => by rw [List.mem_singleton.1 hx]; exact hK) (fun h => absurd h (by simp)) (by simp) (fun _ => ⟨kr_keep kr S h.f k, fun g hg => .inl (hkR g hg)⟩) hK⟩
  by_cases hlk : looks ≤ 0
  · rw [show kX ⟨⟨true, 3, seg, looks, slot, w0, psh, pk, kept⟩, err⟩ M = (⟨⟨true, 8, seg, looks, slot, w0, psh, pk, kept⟩, err⟩, ldM M (adP seg)) by simp [kX, shrinkX, hv, h8, hlk]]
    refine (sk3_out hBm hc S k hBK ok.seg hv h8 hlk).mono ?_
    rintro ee w' ⟨rfl, L', A', h⟩
    exact ⟨rfl, kx_idle hBK A' h (fun x hx => by rw [List.mem_singleton.1 hx]; exact hK) (fun h => absurd h (by simp)) (by simp) (fun _ => ⟨kr_keep kr S h.f k, fun g hg => .inl (hkR g hg)⟩) hK⟩
  · rw [show kX ⟨⟨true, 3, seg, looks, slot, w0, psh, pk, kept⟩, err⟩ M = (⟨⟨true, 5, seg, looks - 1, slot, w0, ⟨1, 0, 0⟩, pk, kept⟩, err⟩, ldM M (adP seg)) by simp [kX, shrinkX, hv, h8, hlk]]
    refine (sk3_look hBm hc S k hBK ok.seg (Nat.le_refl _) hv h8 (by omega) ok.looks.2).mono ?_
    rintro ee w' ⟨e, ⟨rfl, L', A', h⟩, r, hle, hKe⟩
    exact ⟨rfl, kx_part hBK A' h (fun x hx => by rw [List.mem_singleton.1 hx]; exact hK) (fun h => absurd h (by simp)) (by simp) (fun _ => ⟨rfl, 0, false, 0, r, u64_0, u64_0, .inl ⟨rfl, rfl⟩⟩) (fun h => absurd h (by simp)) hKe (fun _ => ⟨kr_keep kr S h.f k, fun g hg => .inl (hkR g hg)⟩) hK ⟨.inr hle, r.ownX (by have := S.pr.m_le; omega)⟩⟩
end
end Go.Proofs.YtmjcbjcnmgleaaaGreatDoor
