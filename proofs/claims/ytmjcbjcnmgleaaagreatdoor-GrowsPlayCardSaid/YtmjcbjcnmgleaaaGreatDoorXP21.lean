/-
  Package allocs; conditions as each theorem says.
-/
import Derived.Test.YtmjcbjcnmgleaaaGreatDoorXP20
namespace Go.Proofs.YtmjcbjcnmgleaaaGreatDoor
open Go.RowKit Go.Maps
structure FX where
  o : FrO
  got : Int
theorem PkPart.ne2 {o : PO} {pt bt : TypeId} {cs : List Value} (h : PkPart o pt bt cs) : bt ≠ 161 ∧ bt ≠ 167 := by
  cases h <;> exact ⟨by decide, by decide⟩
def FreshP (q n s : Nat) (sl : Int) (t : TypeId) (z : Value) (X : World) : Prop := t = 214 ∧ ∃ q1 r1, z = .pointer (some ⟨q1, 0, none⟩) ∧ n ≤ r1 ∧ r1 < q1 ∧ s = n ∧ q < r1 ∧ PkX q1 r1 (newPark sl) X
theorem PkX.setO {q r j : Nat} {o : PO} {w : World} (h : PkX q r o w) (h1 : q ≠ j) (h2 : r ≠ j) (i : Nat) (v : Value) : PkX q r o (w.setCell ⟨j, i, none⟩ v) := by
  rcases h with ⟨h, s, g, k⟩ | ⟨pt, bt, cs, hp, kq, kr⟩
  · exact .inl ⟨h, s, g, k.setO h1 i v⟩
  · exact .inr ⟨pt, bt, cs, hp, kq.setO h1 i v, kr.setO h2 i v⟩
theorem FreshP.set {q n s : Nat} {sl : Int} (t : TypeId) (z : Value) (X : World) (v : Value) (h : FreshP q n s sl t z X) : FreshP q n s sl t z (X.setCell ⟨q, 0, none⟩ v) := by
  obtain ⟨h1, q1, r1, h2, h3, h4, h5, h6, h7⟩ := h
  exact ⟨h1, q1, r1, h2, h3, h4, h5, h6, h7.setO (by omega) (by omega) 0 v⟩
theorem pkx_new {q1 r1 : Nat} {s : Int} {X : World} (h1 : Bq q1 245 [.iface 162 (.pointer (some ⟨r1, 0, none⟩)), .int .i64 s, .int .u32 0, .bool false] X) (h2 : Bq r1 209 [.int .u8 9, .int .i64 s, .int .i64 0, .int .u64 0] X) : PkX q1 r1 (newPark s) X := .inr ⟨_, _, _, .l1 rfl, h1, h2⟩
end Go.Proofs.YtmjcbjcnmgleaaaGreatDoor
namespace Go.Proofs.YtmjcbjcnmgleaaaGreatDoor
open Go.RowKit Go.Maps
structure AX where
  o : AlO
  e : Int
def alX (o : AX) (M : MV) : AX × MV :=
  if o.o.ln = 1 then (if (popX o.o.pop M).1.nx = 0 then (if wSlot (popX o.o.pop M).1.h < 0 then ⟨{ o.o with ln := 0, pop := (popX o.o.pop M).1 }, o.e⟩ else ⟨{ o.o with ln := 2, pop := (popX o.o.pop M).1, sl := wSlot (popX o.o.pop M).1.h }, o.e⟩) else ⟨{ o.o with pop := (popX o.o.pop M).1 }, o.e⟩, (popX o.o.pop M).2)
  else if o.o.ln = 2 then (⟨if M.V (adG (segF o.o.sl)) = 2 then { o.o with ln := 3, pk := newPark o.o.sl } else { o.o with ln := 4 }, o.e⟩, ldM M (adG (segF o.o.sl)))
  else if o.o.ln = 3 then (⟨if (parkX o.o.pk M).1.ln = 0 then { o.o with ln := 1, pop := ⟨1, 0, 0⟩, pk := (parkX o.o.pk M).1 } else { o.o with pk := (parkX o.o.pk M).1 }, o.e⟩, (parkX o.o.pk M).2)
  else if o.o.ln = 4 then (⟨{ o.o with ln := 5 }, M.V adEr⟩, ldM M adEr)
  else if o.o.ln = 5 then (⟨{ o.o with ln := 6 }, o.e⟩, stM M (adB o.o.sl) o.e)
  else if o.o.ln = 6 then (⟨{ o.o with ln := 7, w := M.V (adH o.o.sl) }, o.e⟩, ldM M (adH o.o.sl))
  else if o.o.ln = 7 then (⟨{ o.o with ln := 0, got := true }, o.e⟩, stM M (adH o.o.sl) (headerW 1 (gW o.o.w)))
  else (o, M)
structure AlNum (o : AX) : Prop where
  sl : 2 ≤ o.o.ln → 0 ≤ o.o.sl ∧ o.o.sl < 256
  w : U64 o.o.w
  e : U64 o.e
  pop : o.o.ln = 1 → U64 o.o.pop.h ∧ 0 ≤ o.o.pop.nx ∧ o.o.pop.nx ≤ 3
  pk : o.o.ln = 3 → PkNum o.o.pk ∧ o.o.pk.ln ≠ 0 ∧ o.o.pk.sl = o.o.sl
  got : o.o.ln ≠ 0 → o.o.got = false
  ln : 0 ≤ o.o.ln ∧ o.o.ln ≤ 7
inductive AlPart (o : AX) : TypeId → TypeId → List Value → Prop
  | l1 (h : o.o.ln = 1) : AlPart o 164 210 [.int .i64 o.o.pop.nx, .int .u64 o.o.pop.h, .int .i64 o.o.pop.to]
  | l2 (h : o.o.ln = 2) : AlPart o 211 213 [.int .u8 6, .int .i64 (segF o.o.sl), .int .i64 0, .int .u64 0]
  | l4 (h : o.o.ln = 4) : AlPart o 216 217 [.int .u8 2, .int .i64 0, .int .i64 0, .int .u64 0]
  | l5 (h : o.o.ln = 5) : AlPart o 218 222 [.int .u8 9, .int .i64 o.o.sl, .int .i64 1, .int .u64 o.e]
  | l6 (h : o.o.ln = 6) : AlPart o 162 209 [.int .u8 9, .int .i64 o.o.sl, .int .i64 0, .int .u64 0]
  | l7 (h : o.o.ln = 7) : AlPart o 223 224 [.int .u8 9, .int .i64 o.o.sl, .int .i64 0, .int .u64 (headerW 1 (gW o.o.w))]
def AlRep (q r r1 : Nat) (o : AX) (w : World) : Prop :=
  (o.o.ln = 0 ∧ ∃ s g, (o.o.got = true → s = o.o.sl ∧ g = gW o.o.w) ∧ Bq q 167 [.nilIface, .int .i64 s, .int .u32 g, .bool false, .bool o.o.got] w) ∨
  (∃ pt bt cs s g, AlPart o pt bt cs ∧ (o.o.ln ≠ 1 → s = o.o.sl) ∧ (o.o.ln = 7 → g = gW o.o.w) ∧ Bq q 167 [.iface pt (.pointer (some ⟨r, 0, none⟩)), .int .i64 s, .int .u32 g, .bool false, .bool false] w ∧ Bq r bt cs w) ∨
  (o.o.ln = 3 ∧ ∃ g, Bq q 167 [.iface 214 (.pointer (some ⟨r, 0, none⟩)), .int .i64 o.o.sl, .int .u32 g, .bool false, .bool false] w ∧ PkX r r1 o.o.pk w)
theorem AlPart.ne {o : AX} {pt bt : TypeId} {cs : List Value} (h : AlPart o pt bt cs) : bt ≠ 167 ∧ bt ≠ 121 := by
  cases h <;> exact ⟨by decide, by decide⟩
def AlStepped (p b q r r1 : Nat) (R : AX × MV) (w : World) (e : Ending) (w' : World) : Prop := e = .returned (.bool (R.1.o.ln == 0)) ∧ ∃ r' r1', AlRep q r' r1' R.1 w' ∧ VX p b R.2 w' ∧ Onl p b [q, r, r1] w w' ∧ (r' = r ∨ w.heap.size ≤ r') ∧ (r1' = r1 ∨ w.heap.size ≤ r1')
theorem popX_in {o : OS} {M : MV} (h : U64 o.h) (hM : ∀ x, U64 (M.V x)) (hn : 0 ≤ o.nx ∧ o.nx ≤ 3) : U64 (popX o M).1.h ∧ 0 ≤ (popX o M).1.nx ∧ (popX o M).1.nx ≤ 3 := by
  unfold popX swapX
  split
  · refine ⟨hM _, ?_, ?_⟩ <;> (show _ ≤ _; simp only []; split <;> omega)
  · split
    · exact ⟨h, by show (0 : Int) ≤ 3; omega, by show (3 : Int) ≤ 3; omega⟩
    · split
      · refine ⟨h, ?_, ?_⟩ <;> (show _ ≤ _; simp only []; split <;> omega)
      · exact ⟨h, hn⟩
theorem pushX_in {o : OS} {M : MV} (h : U64 o.h) (hM : ∀ x, U64 (M.V x)) (hn : 0 ≤ o.nx ∧ o.nx ≤ 3) : U64 (pushX o M).1.h ∧ 0 ≤ (pushX o M).1.nx ∧ (pushX o M).1.nx ≤ 3 ∧ (pushX o M).1.to = o.to := by
  unfold pushX swapX
  split
  · exact ⟨hM _, by show (0 : Int) ≤ 2; omega, by show (2 : Int) ≤ 3; omega, rfl⟩
  · split
    · exact ⟨h, by show (0 : Int) ≤ 3; omega, by show (3 : Int) ≤ 3; omega, rfl⟩
    · split
      · refine ⟨h, ?_, ?_, rfl⟩ <;> (show _ ≤ _; simp only []; split <;> omega)
      · exact ⟨h, hn.1, hn.2, rfl⟩
section
variable {p b q r r1 : Nat} {op : List Value} {o : AX} {M M' : MV} {w w' X : World}
theorem al1_none (hq : 1 < q) (hr : 1 < r) (hqr : q ≠ r) (F : VX p b M w) (hs : M.s.st < 1000000) (ok : AlNum o) (h : o.o.ln = 1) {r1 : Nat} {s g : Int} (hc : (popX o.o.pop M).1.nx = 0) (hn : wSlot (popX o.o.pop M).1.h < 0) (kq : Bq q 167 [.iface 164 (.pointer (some ⟨r, 0, none⟩)), .int .i64 s, .int .u32 g, .bool false, .bool false] w) (kr : Bq r 210 [.int .i64 o.o.pop.nx, .int .u64 o.o.pop.h, .int .i64 o.o.pop.to] w) :
    Calls Tryz.prog 52 #[.pointer (some ⟨q, 0, none⟩), .pointer (some ⟨p, 0, none⟩)] w (AlStepped p b q r r1 (alX o M) w) := by
  have e : alX o M = (⟨{ o.o with ln := 0, pop := (popX o.o.pop M).1 }, o.e⟩, (popX o.o.pop M).2) := by unfold alX; rw [if_pos h]; simp [hc, hn]
  rw [e]
  have hin := popX_in (ok.pop h).1 F.u64 ⟨(ok.pop h).2.1, (ok.pop h).2.2⟩
  refine (allocX_end hq Tryz.call191 (mt_Pop r) kq (R := Rn p b r q 210 167 [.int .i64 (popX o.o.pop M).1.nx, .int .u64 (popX o.o.pop M).1.h, .int .i64 (popX o.o.pop M).1.to] [.iface 164 (.pointer (some ⟨r, 0, none⟩)), .int .i64 s, .int .u32 g, .bool false, .bool false] (popX o.o.pop M).2 w) (E := [r]) (M := (popX o.o.pop M).2) ((pop_stepX hr F hs (ok.pop h).1 ⟨(ok.pop h).2.1, (ok.pop h).2.2⟩ kr).mono fun ee X hX => ⟨by rw [hX.1]; simp [hc], .of kq F (by decide) hqr hX.2.1 hX.2.2.1 (.of_only3 hX.2.2.2 (by simp))⟩) (fun X hX => hX.use) (fun X hX => alB_none hX.2.1 hX.2.2.1.lay hin.1 hn (by have := hX.1; rw [hc] at this; exact this))).mono ?_
  rintro ee w' ⟨rfl, h1, h2, h3⟩
  exact ⟨rfl, r, r1, .inl ⟨rfl, _, _, fun h0 => absurd (show o.o.got = true from h0) (by rw [ok.got (by omega)]; simp), by rw [ok.got (by omega)]; exact h1⟩, h2, h3.more (by simp), .inl rfl, .inl rfl⟩
theorem al1_slot (hq : 1 < q) (hr : 1 < r) (hqr : q ≠ r) (F : VX p b M w) (hs : M.s.st < 1000000) (ok : AlNum o) (h : o.o.ln = 1) {r1 : Nat} {s g : Int} (hc : (popX o.o.pop M).1.nx = 0) (hn : 0 ≤ wSlot (popX o.o.pop M).1.h) (kq : Bq q 167 [.iface 164 (.pointer (some ⟨r, 0, none⟩)), .int .i64 s, .int .u32 g, .bool false, .bool false] w) (kr : Bq r 210 [.int .i64 o.o.pop.nx, .int .u64 o.o.pop.h, .int .i64 o.o.pop.to] w) :
    Calls Tryz.prog 52 #[.pointer (some ⟨q, 0, none⟩), .pointer (some ⟨p, 0, none⟩)] w (AlStepped p b q r r1 (alX o M) w) := by
  have e : alX o M = (⟨{ o.o with ln := 2, pop := (popX o.o.pop M).1, sl := wSlot (popX o.o.pop M).1.h }, o.e⟩, (popX o.o.pop M).2) := by unfold alX; rw [if_pos h]; simp [hc, show ¬ wSlot (popX o.o.pop M).1.h < 0 by omega]
  rw [e]
  have hin := popX_in (ok.pop h).1 F.u64 ⟨(ok.pop h).2.1, (ok.pop h).2.2⟩
  have hsl := slot_in (popX o.o.pop M).1.h
  refine (allocX_on hq Tryz.call191 (mt_Pop r) kq (R := Rn p b r q 210 167 [.int .i64 (popX o.o.pop M).1.nx, .int .u64 (popX o.o.pop M).1.h, .int .i64 (popX o.o.pop M).1.to] [.iface 164 (.pointer (some ⟨r, 0, none⟩)), .int .i64 s, .int .u32 g, .bool false, .bool false] (popX o.o.pop M).2 w) (E := [r]) (M := (popX o.o.pop M).2) ((pop_stepX hr F hs (ok.pop h).1 ⟨(ok.pop h).2.1, (ok.pop h).2.2⟩ kr).mono fun ee X hX => ⟨by rw [hX.1]; simp [hc], .of kq F (by decide) hqr hX.2.1 hX.2.2.1 (.of_only3 hX.2.2.2 (by simp))⟩) (fun X hX => hX.use) (fun X hX => alloc_fresh (n := w.heap.size) hX.2.2.2.size hX.2.1.lt (alB_slot hX.2.1 hX.2.2.1.lay hin.1 hn (seg_quo ⟨hn, by omega⟩) (seg_wrap ⟨hn, by omega⟩) (by have := hX.1; rw [hc] at this; exact this))) FreshX.set).mono ?_
  rintro ee w' ⟨rfl, t, z, ⟨rfl, r', rfl, h1, h2, h3⟩, h4, h5, h6⟩
  exact ⟨rfl, r', r1, .inr (.inl ⟨_, _, _, _, _, .l2 rfl, (fun _ => rfl), (fun h => absurd h (by simp)), h4, h3⟩), h5, h6.more (by simp), .inr h1, .inl rfl⟩
theorem al1_no (_ : 1 < q) (hr : 1 < r) (hqr : q ≠ r) (F : VX p b M w) (hs : M.s.st < 1000000) (ok : AlNum o) (h : o.o.ln = 1) {r1 : Nat} {s g : Int} (hc : (popX o.o.pop M).1.nx ≠ 0) (kq : Bq q 167 [.iface 164 (.pointer (some ⟨r, 0, none⟩)), .int .i64 s, .int .u32 g, .bool false, .bool false] w) (kr : Bq r 210 [.int .i64 o.o.pop.nx, .int .u64 o.o.pop.h, .int .i64 o.o.pop.to] w) :
    Calls Tryz.prog 52 #[.pointer (some ⟨q, 0, none⟩), .pointer (some ⟨p, 0, none⟩)] w (AlStepped p b q r r1 (alX o M) w) := by
  have e : alX o M = (⟨{ o.o with pop := (popX o.o.pop M).1 }, o.e⟩, (popX o.o.pop M).2) := by unfold alX; rw [if_pos h]; simp [hc]
  rw [e]
  refine (allocX_no Tryz.call191 (mt_Pop r) kq (R := Rn p b r q 210 167 [.int .i64 (popX o.o.pop M).1.nx, .int .u64 (popX o.o.pop M).1.h, .int .i64 (popX o.o.pop M).1.to] [.iface 164 (.pointer (some ⟨r, 0, none⟩)), .int .i64 s, .int .u32 g, .bool false, .bool false] (popX o.o.pop M).2 w) (E := [r]) (M := (popX o.o.pop M).2) ((pop_stepX hr F hs (ok.pop h).1 ⟨(ok.pop h).2.1, (ok.pop h).2.2⟩ kr).mono fun ee X hX => ⟨by rw [hX.1]; simp [hc], .of kq F (by decide) hqr hX.2.1 hX.2.2.1 (.of_only3 hX.2.2.2 (by simp))⟩) (fun X hX => hX.use)).mono ?_
  rintro ee w' ⟨rfl, h1, h2, h3, h4⟩
  exact ⟨by show _ = Ending.returned (.bool (o.o.ln == 0)); rw [h]; rfl, r, r1, .inr (.inl ⟨_, _, _, _, _, .l1 h, fun hh => absurd h hh, fun hh => absurd (show o.o.ln = 7 from hh) (by omega), h2, h1⟩), h3, h4.more (by simp), .inl rfl, .inl rfl⟩
theorem al2_yes (hq : 1 < q) (hr : 1 < r) (hqr : q ≠ r) (F : VX p b M w) (hs : M.s.st < 1000000) (ok : AlNum o) (h : o.o.ln = 2) {r1 : Nat} {g : Int} (hc : M.V (adG (segF o.o.sl)) = 2) (kq : Bq q 167 [.iface 211 (.pointer (some ⟨r, 0, none⟩)), .int .i64 o.o.sl, .int .u32 g, .bool false, .bool false] w) (kr : Bq r 213 [.int .u8 6, .int .i64 (segF o.o.sl), .int .i64 0, .int .u64 0] w) :
    Calls Tryz.prog 52 #[.pointer (some ⟨q, 0, none⟩), .pointer (some ⟨p, 0, none⟩)] w (AlStepped p b q r r1 (alX o M) w) := by
  have e : alX o M = (⟨{ o.o with ln := 3, pk := newPark o.o.sl }, o.e⟩, ldM M (adG (segF o.o.sl))) := by unfold alX; rw [if_neg (by omega), if_pos h]; simp [hc]
  rw [e]
  have hsl := slot_i64 (ok.sl (by omega))
  have hsg := seg_i64 (ok.sl (by omega))
  refine (allocX_on hq Tryz.call189 (mt_state r) kq (R := Rn p b r q 213 167 [.int .u8 6, .int .i64 (segF o.o.sl), .int .i64 0, .int .u64 (M.V (adG (segF o.o.sl)))] [.iface 211 (.pointer (some ⟨r, 0, none⟩)), .int .i64 o.o.sl, .int .u32 g, .bool false, .bool false] (ldM M (adG (segF o.o.sl))) w) (E := [r]) (M := (ldM M (adG (segF o.o.sl)))) ((loadLn_step (t := 213) (x := (adG (segF o.o.sl))) hr (by decide) F hs (by rw [ldc_G hsg]; exact kr)).mono fun ee X hX => ⟨hX.1, .of kq F (by decide) hqr (by have := hX.2.1; rw [ldc_G hsg] at this; exact this) hX.2.2.1 hX.2.2.2⟩) (fun X hX => hX.use) (S := FreshP q w.heap.size w.heap.size o.o.sl) (u1 := .int .i64 o.o.sl) (u2 := .int .u32 g) (u3 := .bool false) (u4 := .bool false) (fun X hX => (alB_park hX.2.1 (ok.sl (by omega)).1 (ok.sl (by omega)).2 hX.1 (by simpa using hc)).mono ?_) FreshP.set).mono ?_
  · rintro ee X' ⟨q1, r2, rfl, h1, h2, h3, h4, h5, h6⟩
    exact ⟨_, _, rfl, ⟨rfl, q1, r2, rfl, Nat.le_trans hX.2.2.2.size h1, h2, rfl, Nat.lt_of_lt_of_le hX.2.1.lt h1, pkx_new h3 h4⟩, h5, h6⟩
  · rintro ee w' ⟨rfl, t, z, ⟨rfl, q1, r2, rfl, h1, h2, _, _, h3⟩, h4, h5, h6⟩
    exact ⟨rfl, q1, r2, .inr (.inr ⟨rfl, _, h4, h3⟩), h5, h6.more (by simp), .inr (by omega), .inr h1⟩
theorem al2_no (hq : 1 < q) (hr : 1 < r) (hqr : q ≠ r) (F : VX p b M w) (hs : M.s.st < 1000000) (ok : AlNum o) (h : o.o.ln = 2) {r1 : Nat} {g : Int} (hc : M.V (adG (segF o.o.sl)) ≠ 2) (kq : Bq q 167 [.iface 211 (.pointer (some ⟨r, 0, none⟩)), .int .i64 o.o.sl, .int .u32 g, .bool false, .bool false] w) (kr : Bq r 213 [.int .u8 6, .int .i64 (segF o.o.sl), .int .i64 0, .int .u64 0] w) :
    Calls Tryz.prog 52 #[.pointer (some ⟨q, 0, none⟩), .pointer (some ⟨p, 0, none⟩)] w (AlStepped p b q r r1 (alX o M) w) := by
  have e : alX o M = (⟨{ o.o with ln := 4 }, o.e⟩, ldM M (adG (segF o.o.sl))) := by unfold alX; rw [if_neg (by omega), if_pos h]; simp [hc]
  rw [e]
  have hsl := slot_i64 (ok.sl (by omega))
  have hsg := seg_i64 (ok.sl (by omega))
  refine (allocX_on hq Tryz.call189 (mt_state r) kq (R := Rn p b r q 213 167 [.int .u8 6, .int .i64 (segF o.o.sl), .int .i64 0, .int .u64 (M.V (adG (segF o.o.sl)))] [.iface 211 (.pointer (some ⟨r, 0, none⟩)), .int .i64 o.o.sl, .int .u32 g, .bool false, .bool false] (ldM M (adG (segF o.o.sl))) w) (E := [r]) (M := (ldM M (adG (segF o.o.sl)))) ((loadLn_step (t := 213) (x := (adG (segF o.o.sl))) hr (by decide) F hs (by rw [ldc_G hsg]; exact kr)).mono fun ee X hX => ⟨hX.1, .of kq F (by decide) hqr (by have := hX.2.1; rw [ldc_G hsg] at this; exact this) hX.2.2.1 hX.2.2.2⟩) (fun X hX => hX.use) (fun X hX => alloc_fresh (n := w.heap.size) hX.2.2.2.size hX.2.1.lt (alB_era hX.2.1 hX.1 (by simpa using hc))) FreshX.set).mono ?_
  rintro ee w' ⟨rfl, t, z, ⟨rfl, r', rfl, h1, h2, h3⟩, h4, h5, h6⟩
  exact ⟨rfl, r', r1, .inr (.inl ⟨_, _, _, _, _, .l4 rfl, (fun _ => rfl), (fun h => absurd h (by simp)), h4, h3⟩), h5, h6.more (by simp), .inr h1, .inl rfl⟩
theorem al4 (hq : 1 < q) (hr : 1 < r) (hqr : q ≠ r) (F : VX p b M w) (hs : M.s.st < 1000000) (_ : AlNum o) (h : o.o.ln = 4) {r1 : Nat} {g : Int} (kq : Bq q 167 [.iface 216 (.pointer (some ⟨r, 0, none⟩)), .int .i64 o.o.sl, .int .u32 g, .bool false, .bool false] w) (kr : Bq r 217 [.int .u8 2, .int .i64 0, .int .i64 0, .int .u64 0] w) :
    Calls Tryz.prog 52 #[.pointer (some ⟨q, 0, none⟩), .pointer (some ⟨p, 0, none⟩)] w (AlStepped p b q r r1 (alX o M) w) := by
  have e : alX o M = (⟨{ o.o with ln := 5 }, M.V adEr⟩, ldM M adEr) := by unfold alX; rw [if_neg (by omega), if_neg (by omega), if_neg (by omega), if_pos h]
  rw [e]
  refine (allocX_on hq Tryz.call189 (mt_era r) kq (R := Rn p b r q 217 167 [.int .u8 2, .int .i64 0, .int .i64 0, .int .u64 (M.V adEr)] [.iface 216 (.pointer (some ⟨r, 0, none⟩)), .int .i64 o.o.sl, .int .u32 g, .bool false, .bool false] (ldM M adEr) w) (E := [r]) (M := (ldM M adEr)) ((loadLn_step (t := 217) (x := adEr) hr (by decide) F hs kr).mono fun ee X hX => ⟨hX.1, .of kq F (by decide) hqr hX.2.1 hX.2.2.1 hX.2.2.2⟩) (fun X hX => hX.use) (fun X hX => alloc_fresh (n := w.heap.size) hX.2.2.2.size hX.2.1.lt (alB_birth hX.2.1 hX.1)) FreshX.set).mono ?_
  rintro ee w' ⟨rfl, t, z, ⟨rfl, r', rfl, h1, h2, h3⟩, h4, h5, h6⟩
  exact ⟨rfl, r', r1, .inr (.inl ⟨_, _, _, _, _, .l5 rfl, (fun _ => rfl), (fun h => absurd h (by simp)), h4, h3⟩), h5, h6.more (by simp), .inr h1, .inl rfl⟩
theorem al5 (hq : 1 < q) (_ : 1 < r) (hqr : q ≠ r) (F : VX p b M w) (hs : M.s.st < 1000000) (ok : AlNum o) (h : o.o.ln = 5) {r1 : Nat} {g : Int} (kq : Bq q 167 [.iface 218 (.pointer (some ⟨r, 0, none⟩)), .int .i64 o.o.sl, .int .u32 g, .bool false, .bool false] w) (kr : Bq r 222 [.int .u8 9, .int .i64 o.o.sl, .int .i64 1, .int .u64 o.e] w) :
    Calls Tryz.prog 52 #[.pointer (some ⟨q, 0, none⟩), .pointer (some ⟨p, 0, none⟩)] w (AlStepped p b q r r1 (alX o M) w) := by
  have e : alX o M = (⟨{ o.o with ln := 6 }, o.e⟩, stM M (adB o.o.sl) o.e) := by unfold alX; rw [if_neg (by omega), if_neg (by omega), if_neg (by omega), if_neg (by omega), if_pos h]
  rw [e]
  have hsl := slot_i64 (ok.sl (by omega))
  have hsg := seg_i64 (ok.sl (by omega))
  refine (allocX_on hq Tryz.call199 (mt_birth r) kq (R := Rn p b r q 222 167 [.int .u8 9, .int .i64 o.o.sl, .int .i64 1, .int .u64 o.e] [.iface 218 (.pointer (some ⟨r, 0, none⟩)), .int .i64 o.o.sl, .int .u32 g, .bool false, .bool false] (stM M (adB o.o.sl) o.e) w) (E := [r]) (M := (stM M (adB o.o.sl) o.e)) ((storeLn_step (t := 222) (x := (adB o.o.sl)) (by decide) F hs ok.e (by rw [ldc_B hsl]; exact kr)).mono fun ee X hX => ⟨hX.1, .of kq F (by decide) hqr (by have := hX.2.1; rw [ldc_B hsl] at this; exact this) hX.2.2.1 (hX.2.2.2.more (by simp))⟩) (fun X hX => hX.use) (fun X hX => alloc_fresh (n := w.heap.size) hX.2.2.2.size hX.2.1.lt (alB_header hX.2.1)) FreshX.set).mono ?_
  rintro ee w' ⟨rfl, t, z, ⟨rfl, r', rfl, h1, h2, h3⟩, h4, h5, h6⟩
  exact ⟨rfl, r', r1, .inr (.inl ⟨_, _, _, _, _, .l6 rfl, (fun _ => rfl), (fun h => absurd h (by simp)), h4, h3⟩), h5, h6.more (by simp), .inr h1, .inl rfl⟩
theorem al6 (hq : 1 < q) (hr : 1 < r) (hqr : q ≠ r) (F : VX p b M w) (hs : M.s.st < 1000000) (ok : AlNum o) (h : o.o.ln = 6) {r1 : Nat} {g : Int} (kq : Bq q 167 [.iface 162 (.pointer (some ⟨r, 0, none⟩)), .int .i64 o.o.sl, .int .u32 g, .bool false, .bool false] w) (kr : Bq r 209 [.int .u8 9, .int .i64 o.o.sl, .int .i64 0, .int .u64 0] w) :
    Calls Tryz.prog 52 #[.pointer (some ⟨q, 0, none⟩), .pointer (some ⟨p, 0, none⟩)] w (AlStepped p b q r r1 (alX o M) w) := by
  have e : alX o M = (⟨{ o.o with ln := 7, w := (M.V (adH o.o.sl)) }, o.e⟩, ldM M (adH o.o.sl)) := by unfold alX; rw [if_neg (by omega), if_neg (by omega), if_neg (by omega), if_neg (by omega), if_neg (by omega), if_pos h]
  rw [e]
  have hsl := slot_i64 (ok.sl (by omega))
  have hsg := seg_i64 (ok.sl (by omega))
  refine (allocX_on hq Tryz.call189 (mt_header r) kq (R := Rn p b r q 209 167 [.int .u8 9, .int .i64 o.o.sl, .int .i64 0, .int .u64 (M.V (adH o.o.sl))] [.iface 162 (.pointer (some ⟨r, 0, none⟩)), .int .i64 o.o.sl, .int .u32 g, .bool false, .bool false] (ldM M (adH o.o.sl)) w) (E := [r]) (M := (ldM M (adH o.o.sl))) ((loadLn_step (t := 209) (x := (adH o.o.sl)) hr (by decide) F hs (by rw [ldc_H hsl]; exact kr)).mono fun ee X hX => ⟨hX.1, .of kq F (by decide) hqr (by have := hX.2.1; rw [ldc_H hsl] at this; exact this) hX.2.2.1 hX.2.2.2⟩) (fun X hX => hX.use) (fun X hX => alloc_fresh (n := w.heap.size) hX.2.2.2.size hX.2.1.lt (alB_head hX.2.1 hq hX.2.2.1.lay (F.u64 _) hX.1)) FreshX.set).mono ?_
  rintro ee w' ⟨rfl, t, z, ⟨rfl, r', rfl, h1, h2, h3⟩, h4, h5, h6⟩
  exact ⟨rfl, r', r1, .inr (.inl ⟨_, _, _, _, _, .l7 rfl, (fun _ => rfl), (fun _ => rfl), h4, h3⟩), h5, h6.more (by simp), .inr h1, .inl rfl⟩
theorem al7 (hq : 1 < q) (_ : 1 < r) (hqr : q ≠ r) (F : VX p b M w) (hs : M.s.st < 1000000) (ok : AlNum o) (h : o.o.ln = 7) {r1 : Nat} (kq : Bq q 167 [.iface 223 (.pointer (some ⟨r, 0, none⟩)), .int .i64 o.o.sl, .int .u32 (gW o.o.w), .bool false, .bool false] w) (kr : Bq r 224 [.int .u8 9, .int .i64 o.o.sl, .int .i64 0, .int .u64 (headerW 1 (gW o.o.w))] w) :
    Calls Tryz.prog 52 #[.pointer (some ⟨q, 0, none⟩), .pointer (some ⟨p, 0, none⟩)] w (AlStepped p b q r r1 (alX o M) w) := by
  have e : alX o M = (⟨{ o.o with ln := 0, got := true }, o.e⟩, stM M (adH o.o.sl) (headerW 1 (gW o.o.w))) := by unfold alX; rw [if_neg (by omega), if_neg (by omega), if_neg (by omega), if_neg (by omega), if_neg (by omega), if_neg (by omega), if_pos h]
  rw [e]
  have hsl := slot_i64 (ok.sl (by omega))
  have hsg := seg_i64 (ok.sl (by omega))
  refine (allocX_end hq Tryz.call199 (mt_live r) kq (R := Rn p b r q 224 167 [.int .u8 9, .int .i64 o.o.sl, .int .i64 0, .int .u64 (headerW 1 (gW o.o.w))] [.iface 223 (.pointer (some ⟨r, 0, none⟩)), .int .i64 o.o.sl, .int .u32 (gW o.o.w), .bool false, .bool false] (stM M (adH o.o.sl) (headerW 1 (gW o.o.w))) w) (E := [r]) (M := (stM M (adH o.o.sl) (headerW 1 (gW o.o.w)))) ((storeLn_step (t := 224) (x := (adH o.o.sl)) (by decide) F hs (hdrW_u64 o.o.w (by decide)) (by rw [ldc_H hsl]; exact kr)).mono fun ee X hX => ⟨hX.1, .of kq F (by decide) hqr (by have := hX.2.1; rw [ldc_H hsl] at this; exact this) hX.2.2.1 (hX.2.2.2.more (by simp))⟩) (fun X hX => hX.use) (fun X hX => alB_live hX.2.1)).mono ?_
  rintro ee w' ⟨rfl, h1, h2, h3⟩
  exact ⟨rfl, r, r1, .inl ⟨rfl, _, _, fun _ => ⟨rfl, rfl⟩, h1⟩, h2, h3.more (by simp), .inl rfl, .inl rfl⟩
theorem alloc_park_part {g : Int} (hr : 1 < r) (hr1 : 1 < r1) (F : VX p b M w) (hs : M.s.st < 1000000) (ok : PkNum o.o.pk) (kq : Bq q 167 [.iface 214 (.pointer (some ⟨r, 0, none⟩)), .int .i64 o.o.sl, .int .u32 g, .bool false, .bool false] w) (P : PkX r r1 o.o.pk w) (hqr : q ≠ r) (hq1 : q ≠ r1) :
    Calls Tryz.prog 195 #[.pointer (some ⟨r, 0, none⟩), .pointer (some ⟨p, 0, none⟩)] w fun e w1 => e = .returned (.bool ((parkX o.o.pk M).1.ln == 0)) ∧ (fun X => ∃ r2, PkX r r2 (parkX o.o.pk M).1 X ∧ (r2 = r1 ∨ w.heap.size ≤ r2) ∧ Bq q 167 [.iface 214 (.pointer (some ⟨r, 0, none⟩)), .int .i64 o.o.sl, .int .u32 g, .bool false, .bool false] X ∧ VX p b (parkX o.o.pk M).2 X ∧ Onl p b [r, r1] w X) w1 := by
  refine (park_stepX hr hr1 F hs ok P).mono ?_
  rintro ee X ⟨rfl, r2, h1, h2, h3, h4⟩
  have hne := F.ne (by decide) kq
  exact ⟨rfl, r2, h1, h4, kq.onl h3 hne.1 hne.2 (by simp; exact ⟨hqr, hq1⟩), h2, h3⟩
theorem alloc_park_use {g : Int} {X : World} (h : (fun X => ∃ r2, PkX r r2 (parkX o.o.pk M).1 X ∧ (r2 = r1 ∨ w.heap.size ≤ r2) ∧ Bq q 167 [.iface 214 (.pointer (some ⟨r, 0, none⟩)), .int .i64 o.o.sl, .int .u32 g, .bool false, .bool false] X ∧ VX p b (parkX o.o.pk M).2 X ∧ Onl p b [r, r1] w X) X) : Bq q 167 [.iface 214 (.pointer (some ⟨r, 0, none⟩)), .int .i64 o.o.sl, .int .u32 g, .bool false, .bool false] X ∧ VX p b (parkX o.o.pk M).2 X ∧ Onl p b [r, r1] w X := by
  obtain ⟨r2, _, _, h3, h4, h5⟩ := h
  exact ⟨h3, h4, h5⟩
theorem al3_yes {g : Int} (hq : 1 < q) (hr : 1 < r) (hr1 : 1 < r1) (hqr : q ≠ r) (hq1 : q ≠ r1) (F : VX p b M w) (hs : M.s.st < 1000000) (ok : AlNum o) (h : o.o.ln = 3) (hc : (parkX o.o.pk M).1.ln = 0) (kq : Bq q 167 [.iface 214 (.pointer (some ⟨r, 0, none⟩)), .int .i64 o.o.sl, .int .u32 g, .bool false, .bool false] w) (P : PkX r r1 o.o.pk w) :
    Calls Tryz.prog 52 #[.pointer (some ⟨q, 0, none⟩), .pointer (some ⟨p, 0, none⟩)] w (AlStepped p b q r r1 (alX o M) w) := by
  have e : alX o M = (⟨{ o.o with ln := 1, pop := ⟨1, 0, 0⟩, pk := (parkX o.o.pk M).1 }, o.e⟩, (parkX o.o.pk M).2) := by unfold alX; rw [if_neg (by omega), if_neg (by omega), if_pos h]; simp [hc]
  rw [e]
  have hpt := (alloc_park_part hr hr1 F hs (ok.pk h).1 kq P hqr hq1)
  refine (allocX_on hq Tryz.call195 (mt_Park r) kq (R := (fun X => ∃ r2, PkX r r2 (parkX o.o.pk M).1 X ∧ (r2 = r1 ∨ w.heap.size ≤ r2) ∧ Bq q 167 [.iface 214 (.pointer (some ⟨r, 0, none⟩)), .int .i64 o.o.sl, .int .u32 g, .bool false, .bool false] X ∧ VX p b (parkX o.o.pk M).2 X ∧ Onl p b [r, r1] w X)) (E := [r, r1]) (M := (parkX o.o.pk M).2) (hpt.mono fun ee X hX => ⟨by rw [hX.1, hc]; rfl, hX.2⟩) (fun X hX => alloc_park_use hX) (fun X hX => alloc_fresh (n := w.heap.size) (alloc_park_use hX).2.2.size (alloc_park_use hX).1.lt (alB_pop (alloc_park_use hX).1)) FreshX.set).mono ?_
  rintro ee w' ⟨rfl, t, z, ⟨rfl, r', rfl, h1, h2, h3⟩, h4, h5, h6⟩
  exact ⟨rfl, r', r1, .inr (.inl ⟨_, _, _, _, _, .l1 rfl, fun hh => absurd rfl hh, fun hh => absurd hh (by simp), h4, h3⟩), h5, h6.more (by simp), .inr h1, .inl rfl⟩
theorem al3_no {g : Int} (_ : 1 < q) (hr : 1 < r) (hr1 : 1 < r1) (hqr : q ≠ r) (hq1 : q ≠ r1) (F : VX p b M w) (hs : M.s.st < 1000000) (ok : AlNum o) (h : o.o.ln = 3) (hc : (parkX o.o.pk M).1.ln ≠ 0) (kq : Bq q 167 [.iface 214 (.pointer (some ⟨r, 0, none⟩)), .int .i64 o.o.sl, .int .u32 g, .bool false, .bool false] w) (P : PkX r r1 o.o.pk w) :
    Calls Tryz.prog 52 #[.pointer (some ⟨q, 0, none⟩), .pointer (some ⟨p, 0, none⟩)] w (AlStepped p b q r r1 (alX o M) w) := by
  have e : alX o M = (⟨{ o.o with pk := (parkX o.o.pk M).1 }, o.e⟩, (parkX o.o.pk M).2) := by unfold alX; rw [if_neg (by omega), if_neg (by omega), if_pos h]; simp [hc]
  rw [e]
  have hpt := (alloc_park_part hr hr1 F hs (ok.pk h).1 kq P hqr hq1)
  refine (allocX_no Tryz.call195 (mt_Park r) kq (R := (fun X => ∃ r2, PkX r r2 (parkX o.o.pk M).1 X ∧ (r2 = r1 ∨ w.heap.size ≤ r2) ∧ Bq q 167 [.iface 214 (.pointer (some ⟨r, 0, none⟩)), .int .i64 o.o.sl, .int .u32 g, .bool false, .bool false] X ∧ VX p b (parkX o.o.pk M).2 X ∧ Onl p b [r, r1] w X)) (E := [r, r1]) (M := (parkX o.o.pk M).2) (hpt.mono fun ee X hX => ⟨by rw [hX.1, fls hc], hX.2⟩) (fun X hX => alloc_park_use hX)).mono ?_
  rintro ee w' ⟨rfl, r2, h1, h2, h3, h4, h5⟩
  exact ⟨by show _ = Ending.returned (.bool (o.o.ln == 0)); rw [h]; rfl, r, r2, .inr (.inr ⟨h, _, h3, h1⟩), h4, h5.more (by simp), .inl rfl, h2⟩
theorem alloc_stepX (hq : 1 < q) (hr : 1 < r) (hr1 : 1 < r1) (F : VX p b M w) (hs : M.s.st < 1000000) (ok : AlNum o) (P : AlRep q r r1 o w) :
    Calls Tryz.prog 52 #[.pointer (some ⟨q, 0, none⟩), .pointer (some ⟨p, 0, none⟩)] w (AlStepped p b q r r1 (alX o M) w) := by
  rcases P with ⟨h, s, g, hg, k⟩ | ⟨pt, bt, cs, s, g, hp, h1, h2, kq, kr⟩ | ⟨h, g, kq, P⟩
  · have e : alX o M = (o, M) := by unfold alX; rw [if_neg (by omega), if_neg (by omega), if_neg (by omega), if_neg (by omega), if_neg (by omega), if_neg (by omega), if_neg (by omega)]
    rw [e]
    refine (stepAlloc_over _ k).mono ?_
    rintro ee w' ⟨rfl, rfl⟩
    exact ⟨by rw [h]; rfl, r, r1, .inl ⟨h, s, g, hg, k⟩, F, .refl _, .inl rfl, .inl rfl⟩
  · have hqr : q ≠ r := kq.ne kr (Ne.symm hp.ne.1)
    cases hp with
    | l1 h =>
      by_cases hc : (popX o.o.pop M).1.nx = 0
      · by_cases hn : wSlot (popX o.o.pop M).1.h < 0
        · exact al1_none hq hr hqr F hs ok h hc hn kq kr
        · exact al1_slot hq hr hqr F hs ok h hc (by omega) kq kr
      · exact al1_no hq hr hqr F hs ok h hc kq kr
    | l2 h =>
      obtain rfl := h1 (by omega)
      by_cases hc : M.V (adG (segF o.o.sl)) = 2
      · exact al2_yes hq hr hqr F hs ok h hc kq kr
      · exact al2_no hq hr hqr F hs ok h hc kq kr
    | l4 h =>
      obtain rfl := h1 (by omega)
      exact al4 hq hr hqr F hs ok h kq kr
    | l5 h =>
      obtain rfl := h1 (by omega)
      exact al5 hq hr hqr F hs ok h kq kr
    | l6 h =>
      obtain rfl := h1 (by omega)
      exact al6 hq hr hqr F hs ok h kq kr
    | l7 h =>
      obtain rfl := h1 (by omega)
      obtain rfl := h2 h
      exact al7 hq hr hqr F hs ok h kq kr
  · have hP := P
    rcases P with ⟨h0, _⟩ | ⟨pt, bt, cs, hp, k1, k2⟩
    · exact absurd h0 (ok.pk h).2.1
    · have hqr : q ≠ r := kq.ne k1 (by decide)
      have hq1 : q ≠ r1 := kq.ne k2 (Ne.symm hp.ne2.2)
      by_cases hc : (parkX o.o.pk M).1.ln = 0
      · exact al3_yes hq hr hr1 hqr hq1 F hs ok h hc kq hP
      · exact al3_no hq hr hr1 hqr hq1 F hs ok h hc kq hP
end
end Go.Proofs.YtmjcbjcnmgleaaaGreatDoor
