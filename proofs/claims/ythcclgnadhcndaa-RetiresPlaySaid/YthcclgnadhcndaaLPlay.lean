/-
  The law RetiresPlay, walked: it returns true and only makes memory of its own; condition: what the package does.
-/
import Derived.Test.YthcclgnadhcndaaRS4
import Derived.Test.YthcclgnadhcndaaRA
import Derived.Deep.RegionLaw
import Derived.Deep.DeepCutAuto
import Derived.Deep.RegionWith
import Derived.BigQuiet
namespace Go.Proofs.Ythcclgnadhcndaa
open Go.RowKit Go.Maps

section
variable {W w w' : World} {q K : Nat} {fp fp' : List Nat} {l l' m m' xs : List EP} {v v' vo vg : Value} {bs : List Bool} {Z Z' : List Nat}
theorem ActR.nine {g off n i : Nat} {f : Nat → AcR} {sw ek : Bool} {es eg eb ec ed bf : Int} {Ag : Option Addr} {ng cg : Nat} (h : ActR W g off f n) (hb : Below W.heap.size W w) (hi : i < n) (hf : f i = ⟨sw, ⟨es, eg, ek, eb, ec, ed⟩, Ag, ng, cg, bs, bf⟩) :
    w.cell? ⟨g, off + i * 9, none⟩ = some (.bool sw) ∧ w.cell? ⟨g, off + i * 9 + 1, none⟩ = some (.int .i64 es) ∧ w.cell? ⟨g, off + i * 9 + 2, none⟩ = some (.int .u32 eg) ∧ w.cell? ⟨g, off + i * 9 + 3, none⟩ = some (.bool ek) ∧ w.cell? ⟨g, off + i * 9 + 4, none⟩ = some (.int .u64 eb) ∧ w.cell? ⟨g, off + i * 9 + 5, none⟩ = some (.int .u64 ec) ∧ w.cell? ⟨g, off + i * 9 + 6, none⟩ = some (.int .u64 ed) ∧ w.cell? ⟨g, off + i * 9 + 7, none⟩ = some (.slice Ag ng cg) ∧ w.cell? ⟨g, off + i * 9 + 8, none⟩ = some (.int .u64 bf) ∧ BoolV W (.slice Ag ng cg) bs ∧ RP.ok ⟨es, eg, ek⟩ := by
  obtain ⟨h1, h2, h3⟩ := h i hi
  rw [hf] at h1 h2 h3
  have k : ∀ j u, ([.bool sw, .int .i64 es, .int .u32 eg, .bool ek, .int .u64 eb, .int .u64 ec, .int .u64 ed, .slice Ag ng cg, .int .u64 bf] : List Value)[j]? = some u → w.cell? ⟨g, off + i * 9 + j, none⟩ = some u := fun j u hu => (hb.cell (p := ⟨g, off + i * 9 + j, none⟩) (World.block_lt_of_cell? W _ (h1 j u hu))).trans (h1 j u hu)
  exact ⟨k 0 _ rfl, k 1 _ rfl, k 2 _ rfl, k 3 _ rfl, k 4 _ rfl, k 5 _ rfl, k 6 _ rfl, k 7 _ rfl, k 8 _ rfl, h2, ok_rp (show EP.ok ⟨es, eg, ek, eb, ec, ed⟩ from h3)⟩
theorem box_nine {g : Nat} {sw ek : Bool} {es eg eb ec ed bf : Int} {Ag : Option Addr} {ng cg : Nat} (h : Bq g 37 [.bool sw, .int .i64 es, .int .u32 eg, .bool ek, .int .u64 eb, .int .u64 ec, .int .u64 ed, .slice Ag ng cg, .int .u64 bf] w) : w.cell? ⟨g, 0, none⟩ = some (.bool sw) ∧ w.cell? ⟨g, 1, none⟩ = some (.int .i64 es) ∧ w.cell? ⟨g, 2, none⟩ = some (.int .u32 eg) ∧ w.cell? ⟨g, 3, none⟩ = some (.bool ek) ∧ w.cell? ⟨g, 4, none⟩ = some (.int .u64 eb) ∧ w.cell? ⟨g, 5, none⟩ = some (.int .u64 ec) ∧ w.cell? ⟨g, 6, none⟩ = some (.int .u64 ed) ∧ w.cell? ⟨g, 7, none⟩ = some (.slice Ag ng cg) ∧ w.cell? ⟨g, 8, none⟩ = some (.int .u64 bf) := ⟨h.cell 0, h.cell 1, h.cell 2, h.cell 3, h.cell 4, h.cell 5, h.cell 6, h.cell 7, h.cell 8⟩
/-- What region 24 reads, whatever its calls have made beside. -/
def SBX (K gx : Nat) (v : Value) (bf : Int) (w0 w : World) : Prop := (w.cell? ⟨K, 0, none⟩ = some v ∧ w.cell? ⟨gx, 8, none⟩ = some (.int .u64 bf)) ∧ Hid (Below w0.heap.size w0 w)
theorem SBX.step {K gx : Nat} {v : Value} {bf : Int} {w0 w w' : World} (h : SBX K gx v bf w0 w) (hb : Below w.heap.size w w') : SBX K gx v bf w0 w' := by
  obtain ⟨⟨h0, h1⟩, h2⟩ := h
  exact ⟨⟨(hb.cell (p := ⟨K, 0, none⟩) (World.block_lt_of_cell? w _ h0)).trans h0, (hb.cell (p := ⟨gx, 8, none⟩) (World.block_lt_of_cell? w _ h1)).trans h1⟩, Lib.hid (h2.out.trans (hb.mono h2.out.size))⟩
theorem own_bools {B : Nat} {v' : Value} {bs : List Bool} (h : OwnB w B v' ([] ++ bs)) : ∃ A c, v' = .slice A bs.length c ∧ OwnB w B v' bs := by
  rw [List.nil_append] at h
  obtain ⟨A, c, rfl⟩ := ownsRow_form h
  exact ⟨A, c, rfl, h⟩
/-- New memory beside. -/
theorem JZ.fresh (h : JZ W q fp K v l m Z w) (hb : Below w.heap.size w w') (hZ : ∀ x, vo.ownBlock = some x → w.heap.size ≤ x ∧ x < w'.heap.size) : JZ W q fp K v l m (Z ++ vo.ownBlock.toList) w' := by
  refine (h.below hb).1.more fun z hm => ?_
  rcases List.mem_append.1 hm with hm | hm
  · exact .inl hm
  · obtain ⟨h1, h2⟩ := hZ z (by simpa using hm)
    have := h.j.d.k.lt
    refine .inr ⟨h2, fun e => ?_, by omega, fun e => ?_⟩
    · have := h.j.s.p.lt z e
      omega
    · have := h.j.d.row.lt e
      omega
theorem fresh_at {A : Option Addr} {n c : Nat} (h : (Value.slice A n c).ownBlock = (Value.slice none 0 0).ownBlock ∨ (Value.slice A n c).ownBlock = some w.heap.size) {x : Nat} (hx : (Value.slice A n c).ownBlock = some x) : w.heap.size ≤ x := by
  rw [hx] at h
  rcases h with h | h
  · cases h
  · injection h with h
    omega
theorem JZ.box (h : JZ W q fp K v l m [] w) {t : TypeId} {cs : Array Value} : JZ W q fp K v l m [w.heap.size] (w.alloc (.cells cs t)) := by
  have hb := (Below.refl _ w).alloc (Nat.le_refl _) (.cells cs t)
  have := h.fresh (vo := .slice (some ⟨w.heap.size, 0, none⟩) 0 0) hb fun x hx => by
    obtain rfl : w.heap.size = x := by simpa [Value.ownBlock] using hx
    rw [World.size_alloc]
    omega
  simpa [Value.ownBlock] using this
end
set_option maxRecDepth 100000 in
set_option maxHeartbeats 4000000 in
theorem play_long (A : Option Addr) (n c : Nat) (W : World) (hn : ¬ n ≤ 100) : Calls Try.prog 3 #[.slice A n c] W fun e W' => e = .returned (.bool true) ∧ Below W.heap.size W W' := by
  have h1 : (100 : Int) < (n : Int) := by omega
  clear hn
  go_enter Try.func3, Try.ntmps3
  go_wp2_with fail
  ((with_reducible refine (lives_any W).mono ?_); rintro e w4 ⟨rfl, hb⟩)
  go_wp2_with fail
  go_ret
  exact ⟨rfl, hb⟩
set_option maxRecDepth 100000 in
set_option maxHeartbeats 64000000 in
theorem play_good (A : Option Addr) (n c : Nat) (f : Nat → AcR) (W : World) (hn : n ≤ 100) (hA : 0 < n → ∃ g off, A = some ⟨g, off, none⟩ ∧ n ≤ c ∧ c ≤ 9223372036854775807 ∧ ActR W g off f n) : Calls Try.prog 3 #[.slice A n c] W fun e W' => e = .returned (.bool true) ∧ Below W.heap.size W W' := by
  have h1 : ¬ (100 : Int) < (n : Int) := by omega
  obtain ⟨i0, hi0, hz0, hz1, hz2⟩ := info_parts infoBo
  have HA := Lib.hid hA
  clear hA
  go_enter Try.func3, Try.ntmps3
  go_wp2_with fail
  ((with_reducible refine (SR.new (Below.refl W.heap.size W)).mono ?_); rintro e w1 ⟨q, fp1, rfl, h1s, _⟩)
  have HJ := Lib.hid (JR.new (ZL := []) h1s h1s.low.size rfl rfl)
  clear h1s
  go_upto_region 5 with (fail)
  revert HJ
  generalize (w1.alloc (.cells #[.slice none 0 0] 28)) = X
  generalize w1.heap.size = K
  intro HJ
  have HZ0 := Lib.hid (show ∃ fp A c l, JZ W q fp K (.slice A l.length c) l l [] X ∧ l.length ≤ 0 from ⟨_, none, 0, [], ⟨HJ.out, by simp⟩, Nat.le_refl _⟩)
  clear HJ
  go_wp2_with fail
  go_loopw [5] (fun j wr => ∃ i : Nat, i ≤ n ∧ j = .int .i64 (i : Int) ∧ Hid (∃ fp A c l, JZ W q fp K (.slice A l.length c) l l [] wr ∧ l.length ≤ i)) (fun j _ => n - (intOf j).toNat)
  case atStart => exact ⟨0, Nat.zero_le _, rfl, HZ0⟩
  case round =>
    clear HZ0
    obtain ⟨i, hi, rfl, HR⟩ := hrel
    rename World => wr
    obtain ⟨fp, A1, c1, l, hz, hli⟩ := HR.out
    have HZ := Lib.hid hz
    have HLI := Lib.hid hli
    have HL9 := Lib.hid (show l.length < 1000 by omega)
    clear HR hz hli
    have hge : (0 : Int) ≤ (i : Int) := by omega
    by_cases hlt : i < n
    · have hlt' : (i : Int) < (n : Int) := by omega
      obtain ⟨g1, o1, rfl, hnc, hcm, hac⟩ := HA.out (by omega)
      have hfi : f i = ⟨(f i).sw, (f i).e, (f i).A, (f i).n, (f i).c, (f i).bs, (f i).b⟩ := rfl
      generalize (f i).sw = sw, (f i).e = ev, (f i).A = Ag, (f i).n = ng, (f i).c = cg, (f i).bs = bs, (f i).b = bf at hfi
      obtain ⟨es, eg, ek, eb, ec, ed⟩ := ev
      obtain ⟨y0, y1, y2, y3, y4, y5, y6, y7, y8, hbv, hkv⟩ := hac.nine HZ.out.j.s.low hlt hfi
      have HNG := Lib.hid hbv.len
      have hA0 : Below wr.heap.size wr (wr.alloc (.cells #[.bool sw, .int .i64 es, .int .u32 eg, .bool ek, .int .u64 eb, .int .u64 ec, .int .u64 ed, .slice Ag ng cg, .int .u64 bf] 37)) := (Below.refl _ _).alloc (Nat.le_refl _) _
      have HZX := Lib.hid (HZ.out.box (t := 37) (cs := #[.bool sw, .int .i64 es, .int .u32 eg, .bool ek, .int .u64 eb, .int .u64 ec, .int .u64 ed, .slice Ag ng cg, .int .u64 bf]))
      have HBX := Lib.hid (Bq.new wr [.bool sw, .int .i64 es, .int .u32 eg, .bool ek, .int .u64 eb, .int .u64 ec, .int .u64 ed, .slice Ag ng cg, .int .u64 bf] 37)
      have HBW := Lib.hid hbv
      have HKV := Lib.hid hkv
      clear hkv
      clear hbv hA0 hfi hac HZ
      go_upto_region 9 with (fail)
      clear y0 y1 y2 y3 y4 y5 y6 y7 y8
      revert HZX HBX
      obtain ⟨X, hX⟩ : ∃ X, X = wr.alloc (.cells #[.bool sw, .int .i64 es, .int .u32 eg, .bool ek, .int .u64 eb, .int .u64 ec, .int .u64 ed, .slice Ag ng cg, .int .u64 bf] 37) := ⟨_, rfl⟩
      obtain ⟨gx, hgx⟩ : ∃ gx, gx = wr.heap.size := ⟨_, rfl⟩
      rw [← hX, ← hgx]
      intro HZX HBX
      have HBX := Lib.hid (show Bq gx 37 [.bool sw, .int .i64 es, .int .u32 eg, .bool ek, .int .u64 eb, .int .u64 ec, .int .u64 ed, .slice Ag ng cg, .int .u64 bf] X from hX ▸ HBX.out)
      clear hX hgx
      obtain ⟨x0, x1, x2, x3, x4, x5, x6, x7, x8⟩ := box_nine HBX.out
      by_cases hng : 100 < ng
      · have hng' : (100 : Int) < (ng : Int) := by omega
        go_wp2_with fail
        ((with_reducible refine (lives_any X).mono ?_); rintro e w4 ⟨rfl, hb⟩)
        have HL := Lib.hid (HZX.out.j.s.low.trans (hb.mono HZX.out.j.s.low.size))
        clear hb x0 x1 x2 x3 x4 x5 x6 x7 x8
        go_wp2_with fail
        go_ret
        exact ⟨rfl, HL.out⟩
      · have hng' : ¬ (100 : Int) < (ng : Int) := by omega
        cases sw
        · clear HBW
          go_upto_region 22 with (fail)
          obtain ⟨N, hN⟩ : ∃ N, addN l ⟨es, eg, ek, eb, ec, ed⟩ = N := ⟨_, rfl⟩
          obtain ⟨l1, hl1⟩ : ∃ l1, addE l ⟨es, eg, ek, eb, ec, ed⟩ = l1 := ⟨_, rfl⟩
          have HN := Lib.hid hN
          have HL1 := Lib.hid hl1
          have HLE := Lib.hid (show l1.length ≤ i + 1 by have := hl1 ▸ add_le l ⟨es, eg, ek, eb, ec, ed⟩; have := HLI.out; omega)
          clear hN hl1
          go_cut [69] (fun x wx => x = .bool false ∧ Hid (∃ fp A c, JZ W q fp K (.slice A l1.length c) l1 l1 [gx] wx ∧ Fra [gx] X wx))
          case first =>
            clear x0 x1 x2 x3 x4 x5 x6 x7 x8
            have hfr := HZX.out.below (Below.refl _ X).drew
            have HZ0 := Lib.hid hfr.1
            have HF0 := Lib.hid hfr.2
            obtain ⟨x0, x1, x2, x3, x4, x5, x6, x7, x8⟩ := box_nine (HBX.out.fra HF0.out (by simp))
            clear hfr
            go_region_with (first
              | (go_at_call 13; with_reducible refine (HZ0.out.padd1 HL9.out HKV.out HN.out HL1.out).mono ?_; rintro e wa ⟨rfl, fpa, ja, fa⟩; have Ha := Lib.hid ja; have Fa := Lib.hid (HF0.out.trans fa); obtain ⟨a0, a1, a2, a3, a4, a5, a6, a7, a8⟩ := box_nine (HBX.out.fra Fa.out (by simp)); clear ja fa)
              | (go_at_call 14; with_reducible refine (Ha.out.dadd1 HL9.out HN.out HL1.out).mono ?_; rintro e wb ⟨rfl, Ab, cb, jb, fb⟩; have Hb := Lib.hid jb; have Fb := Lib.hid (Fa.out.trans fb); clear jb fb))
            all_goals (go_wp2_with fail)
            all_goals go_meet
            all_goals exact ⟨rfl, Lib.hid ⟨_, _, _, Hb.out, Fb.out⟩⟩
          case rest =>
            obtain ⟨rfl, HC⟩ := hcut
            rename World => wE
            obtain ⟨fp2, A2, c2, hj, hfr⟩ := HC.out
            have HZ2 := Lib.hid hj
            have HB2 := Lib.hid (HBX.out.fra hfr (by simp))
            clear HC hj hfr HZX HBX x0 x1 x2 x3 x4 x5 x6 x7 x8 HN HL1 HL9
            have HL8 := Lib.hid (show l1.length < 1000 by have := HLE.out; omega)
            go_upto_region 24 with (fail)
            go_cut [93] (fun x wx => x = .bool false ∧ Hid (Below wE.heap.size wE wx))
            case first =>
              have HS0 := Lib.hid (show SBX K gx (.slice A2 l1.length c2) bf wE wE.drew from ⟨⟨by have k0 := (HZ2.out.below (Below.refl wE.heap.size wE).drew).1.j.d.k.cell 0; simpa using k0, (HB2.out.below (Below.refl wE.heap.size wE).drew).cell 8⟩, Lib.hid (Below.refl wE.heap.size wE).drew⟩)
              have H0 := Lib.hid (Below.refl wE.heap.size wE).drew
              obtain ⟨NB, hNB⟩ : ∃ NB : Int, ((bornE l1 bf l1.length : Nat) : Int) = NB := ⟨_, rfl⟩
              have HNB := Lib.hid hNB
              clear hNB
              go_region_held3 (fun w1 => (w1.cell? ⟨K, 0, none⟩ = some (.slice A2 l1.length c2) ∧ w1.cell? ⟨gx, 8, none⟩ = some (.int .u64 bf)) ∧ Hid (Below wE.heap.size wE w1))
                (first | exact HS0.out | exact HSa.out | exact HSb.out | exact HSc.out | exact HSd.out | exact HSe.out | assumption)
                (first
                | (go_at_call 15; with_reducible refine ((HZ2.out.below H0.out).1.j.s.all HL8.out).mono ?_; rintro e wa ⟨A3, c3, rfl, hr, _, hb, _⟩; have Hr := Lib.hid hr; have Ha := Lib.hid (H0.out.trans (hb.mono H0.out.size)); have HSa := Lib.hid (HS0.out.step hb); clear hr hb)
                | (go_at_call 10; with_reducible refine (same_eq Hr.out.own.see (HZ2.out.below Ha.out).1.j.d.row.see (by have := HL8.out; omega) rfl).mono ?_; rintro e wb ⟨rfl, hb⟩; have Hb := Lib.hid (Ha.out.trans (hb.mono Ha.out.size)); have HSb := Lib.hid (HSa.out.step hb); clear hb)
                | (go_at_call 16; with_reducible refine ((HZ2.out.below Hb.out).1.j.s.len).mono ?_; rintro e wc ⟨rfl, _, hb⟩; have Hc := Lib.hid (Hb.out.trans (hb.mono Hb.out.size)); have HSc := Lib.hid (HSb.out.step hb); clear hb)
                | (go_at_call 17; with_reducible refine ((HZ2.out.below Hc.out).1.j.s.born1 HL8.out HNB.out).mono ?_; rintro e wd ⟨rfl, _, hb⟩; have Hd := Lib.hid (Hc.out.trans (hb.mono Hc.out.size)); have HSd := Lib.hid (HSc.out.step hb); clear hb)
                | (go_at_call 18; with_reducible refine (docBorn1 (HZ2.out.below Hd.out).1.j.d HL8.out HNB.out).mono ?_; rintro e we ⟨rfl, hb⟩; have He := Lib.hid (Hd.out.trans (hb.mono Hd.out.size)); have HSe := Lib.hid (HSd.out.step hb); clear hb))
              all_goals (go_wp2_with fail)
              all_goals go_meet
              all_goals exact ⟨rfl, He⟩
            case rest =>
              obtain ⟨rfl, HC⟩ := hcut
              rename World => wF
              have HZ3 := Lib.hid (HZ2.out.below HC.out).1
              clear HZ2 HB2 HC
              go_wp2_with fail
              ((with_reducible refine (HZ3.out.j.s.all HL8.out).mono ?_); rintro e wG ⟨A4, c4, rfl, hr4, _, hb4, hf4⟩)
              have HZ4 := Lib.hid (HZ3.out.fresh (vo := .slice A4 l1.length c4) hb4 fun x hx => ⟨hf4 x hx, hr4.own.lt hx⟩)
              have HO4 := Lib.hid hr4.own
              clear hr4 hb4 hf4 HZ3
              go_wp2_with fail
              ((with_reducible refine (HZ4.out.spoil HO4.out (fun x hx => by rw [hx]; simp)).mono ?_); rintro e wH ⟨rfl, hz5, _⟩)
              have HZ5 := Lib.hid (hz5.sub (Z' := []) (by simp))
              clear hz5 HZ4 HO4
              go_wp2_with fail
              go_roundw
              case rel => exact ⟨i + 1, by omega, by go_num, Lib.hid ⟨_, _, _, _, HZ5.out, HLE.out⟩⟩
              case measure => simp [intOf]; omega
        · have HBVX := Lib.hid (HBW.out.below HZX.out.j.s.low)
          go_wp2_with (at_builtin; refine wpList_append_bools hi0 hz0 hz1 hz2 rfl (.const (.slice none 0 0)) (.tmp 33) rfl W.heap.size (.slice none 0 0) [] rfl (OwnB.nil _ _) (.slice Ag ng cg) bs rfl HBVX.out (by have := HNG.out; simp only [List.length_nil]; omega) HZX.out.j.s.low.size ?_; intro v' w7 h7 g7 b7; obtain ⟨A7, c7, rfl, ht7⟩ := own_bools h7; have HT7 := Lib.hid ht7; have HB7 := Lib.hid (grown_none g7); have HZ7 := Lib.hid (HZX.out.fresh (vo := .slice A7 bs.length c7) (grown_none g7) fun x hx => ⟨fresh_at b7 hx, ht7.lt hx⟩); have HBX7 := Lib.hid (HBX.out.below HB7.out); clear h7 g7 b7 ht7)
          have HTV := Lib.hid (show BoolV w7 (.slice A7 bs.length c7) bs from Or.inl HT7.out.see)
          clear HBVX HBX HZX x0 x1 x2 x3 x4 x5 x6 x7 x8 HB7
          ((with_reducible refine (HZ7.out.psweep HL9.out HTV.out).mono ?_); rintro e w8 ⟨A8, c8, fp8, rfl, ho8, hz8, fr8⟩)
          obtain ⟨lo, hlo⟩ : ∃ lo, outE l (fB bs) l.length = lo := ⟨_, rfl⟩
          obtain ⟨l1, hl1⟩ : ∃ l1, leftE l (fB bs) l.length = l1 := ⟨_, rfl⟩
          have HLE := Lib.hid (show l1.length ≤ i + 1 by have := (left_sub l (fB bs)).length_le; rw [hl1] at this; have := HLI.out; omega)
          rw [hl1] at hz8
          rw [hlo] at hz8 ho8 ⊢
          have HLO := Lib.hid hlo
          have HL1 := Lib.hid hl1
          have HLO9 := Lib.hid (show lo.length < 1000 by have := (out_sub l (fB bs)).length_le; rw [hlo] at this; have := HL9.out; omega)
          have HT8 := Lib.hid (HT7.out.fra fr8 fun x hx => by rw [hx]; simp)
          have HBX8 := Lib.hid (HBX7.out.fra fr8 (by simp))
          have HO8 := Lib.hid ho8
          have HZ8 := Lib.hid hz8
          clear ho8 hz8 fr8 hlo hl1 HZ7 HTV HT7 HBX7
          obtain ⟨x0, x1, x2, x3, x4, x5, x6, x7, x8⟩ := box_nine HBX8.out
          go_wp2_with fail
          ((with_reducible refine (HZ8.out.dsweep HL9.out (HBW.out.below HZ8.out.j.s.low)).mono ?_); rintro e w9 ⟨Ao, co, A9, c9, rfl, see9, hz9, fr9⟩)
          rw [HL1.out] at hz9
          rw [HLO.out] at see9 ⊢
          have HT9 := Lib.hid (HT8.out.fra fr9 fun x hx => by rw [hx]; simp)
          have HBX9 := Lib.hid (HBX8.out.fra fr9 (by simp))
          have HO9 := Lib.hid (HO8.out.fra fr9 fun x hx => by rw [hx]; simp)
          have HZ9 := Lib.hid hz9
          have HS9 := Lib.hid see9
          clear see9 hz9 fr9 HZ8 HT8 HBX8 HO8 x0 x1 x2 x3 x4 x5 x6 x7 x8
          go_wp2_with fail
          ((with_reducible refine (same_eq HO9.out.see HS9.out (by have := HLO9.out; omega) rfl).mono ?_); rintro e w10 ⟨rfl, hb10⟩)
          have HT10 := Lib.hid (HT9.out.below hb10)
          have HBX10 := Lib.hid (HBX9.out.below hb10)
          have HO10 := Lib.hid (HO9.out.below hb10)
          have HZ10 := Lib.hid (HZ9.out.below hb10).1
          clear hb10 HZ9 HT9 HBX9 HO9 HS9
          go_wp2_with fail
          go_loopw [9] (fun j w2 => ∃ k : Nat, k ≤ bs.length ∧ j = .int .i64 (k : Int) ∧ Hid (Below w10.heap.size w10 w2)) (fun j _ => bs.length - (intOf j).toNat)
          case atStart => exact ⟨0, Nat.zero_le _, rfl, Lib.hid (.refl _ _)⟩
          case round =>
            obtain ⟨k, hk, rfl, HB⟩ := hrel
            rename World => w2
            have hgk : (0 : Int) ≤ (k : Int) := by omega
            have hbl : bs.length ≤ 100 := by have := HNG.out; omega
            by_cases hlk : k < bs.length
            · have hlk' : (k : Int) < ((bs.length : Nat) : Int) := by omega
              have hkn : k < ng := by have := HNG.out; omega
              have hkn' : (k : Int) < (ng : Int) := by omega
              have hs1 := (HT10.out.below HB.out).see
              obtain ⟨hd0, hd1, g7, o7, rfl⟩ := hs1.addr (by omega)
              have z1 := hs1.at_ hlk
              have hs2 := (HBW.out.below ((HZ10.out.below HB.out).1.j.s.low)).see (by omega)
              obtain ⟨hf0, hf1, g2, o2, rfl⟩ := hs2.addr (by omega)
              have z2 := hs2.at_ hlk
              obtain ⟨_, _, _, _, _, _, _, x7, _⟩ := box_nine (HBX10.out.below HB.out)
              clear hs1 hs2
              generalize bs.getD k false = bv at *
              cases bv
              · go_wp2_with fail
                go_quiet (fail)
                have hbn := Lib.hid (HB.out.trans ((below_drewN' (Below.refl _ w2) nq).mono HB.out.size))
                clear z1 z2 x7
                go_wp2_with fail
                go_roundw
                case rel => exact ⟨k + 1, by omega, by go_num, hbn⟩
                case measure => simp [intOf]; omega
              · go_wp2_with fail
                go_quiet (fail)
                have hbn := Lib.hid (HB.out.trans ((below_drewN' (Below.refl _ w2) nq).mono HB.out.size))
                clear z1 z2 x7
                go_wp2_with fail
                go_roundw
                case rel => exact ⟨k + 1, by omega, by go_num, hbn⟩
                case measure => simp [intOf]; omega
            · have hnk : ¬ (k : Int) < ((bs.length : Nat) : Int) := by omega
              have HZ11 := Lib.hid (HZ10.out.below HB.out).1
              have HBX11 := Lib.hid (HBX10.out.below HB.out)
              have HO11 := Lib.hid (HO10.out.below HB.out)
              clear HZ10 HBX10 HO10 HT10 HB
              go_wp2_with fail
              ((with_reducible refine (HZ11.out.spoil HO11.out (fun x hx => by rw [hx]; simp)).mono ?_); rintro e wE ⟨rfl, hz12, hk12⟩)
              have HB2 := Lib.hid (HBX11.out.same (hk12 gx HBX11.out.lt fun e => by
                obtain ⟨_, cs, k9⟩ := HO11.out.bq e
                exact absurd (bq_type HBX11.out k9) (by decide)))
              have HZ2 := Lib.hid (hz12.sub (Z' := [gx]) (by simp))
              clear hz12 hk12 HZ11 HBX11 HO11 HLO HL1 HLO9
              have HL8 := Lib.hid (show l1.length < 1000 by have := HLE.out; omega)
              go_upto_region 24 with (fail)
              go_cut [93] (fun x wx => x = .bool false ∧ Hid (Below wE.heap.size wE wx))
              case first =>
                have HS0 := Lib.hid (show SBX K gx (.slice A9 l1.length c9) bf wE wE.drew from ⟨⟨by have k0 := (HZ2.out.below (Below.refl wE.heap.size wE).drew).1.j.d.k.cell 0; simpa using k0, (HB2.out.below (Below.refl wE.heap.size wE).drew).cell 8⟩, Lib.hid (Below.refl wE.heap.size wE).drew⟩)
                have H0 := Lib.hid (Below.refl wE.heap.size wE).drew
                obtain ⟨NB, hNB⟩ : ∃ NB : Int, ((bornE l1 bf l1.length : Nat) : Int) = NB := ⟨_, rfl⟩
                have HNB := Lib.hid hNB
                clear hNB
                go_region_held3 (fun w1 => (w1.cell? ⟨K, 0, none⟩ = some (.slice A9 l1.length c9) ∧ w1.cell? ⟨gx, 8, none⟩ = some (.int .u64 bf)) ∧ Hid (Below wE.heap.size wE w1))
                  (first | exact HS0.out | exact HSa.out | exact HSb.out | exact HSc.out | exact HSd.out | exact HSe.out | assumption)
                  (first
                  | (go_at_call 15; with_reducible refine ((HZ2.out.below H0.out).1.j.s.all HL8.out).mono ?_; rintro e wa ⟨A3, c3, rfl, hr, _, hb, _⟩; have Hr := Lib.hid hr; have Ha := Lib.hid (H0.out.trans (hb.mono H0.out.size)); have HSa := Lib.hid (HS0.out.step hb); clear hr hb)
                  | (go_at_call 10; with_reducible refine (same_eq Hr.out.own.see (HZ2.out.below Ha.out).1.j.d.row.see (by have := HL8.out; omega) rfl).mono ?_; rintro e wb ⟨rfl, hb⟩; have Hb := Lib.hid (Ha.out.trans (hb.mono Ha.out.size)); have HSb := Lib.hid (HSa.out.step hb); clear hb)
                  | (go_at_call 16; with_reducible refine ((HZ2.out.below Hb.out).1.j.s.len).mono ?_; rintro e wc ⟨rfl, _, hb⟩; have Hc := Lib.hid (Hb.out.trans (hb.mono Hb.out.size)); have HSc := Lib.hid (HSb.out.step hb); clear hb)
                  | (go_at_call 17; with_reducible refine ((HZ2.out.below Hc.out).1.j.s.born1 HL8.out HNB.out).mono ?_; rintro e wd ⟨rfl, _, hb⟩; have Hd := Lib.hid (Hc.out.trans (hb.mono Hc.out.size)); have HSd := Lib.hid (HSc.out.step hb); clear hb)
                  | (go_at_call 18; with_reducible refine (docBorn1 (HZ2.out.below Hd.out).1.j.d HL8.out HNB.out).mono ?_; rintro e we ⟨rfl, hb⟩; have He := Lib.hid (Hd.out.trans (hb.mono Hd.out.size)); have HSe := Lib.hid (HSd.out.step hb); clear hb))
                all_goals (go_wp2_with fail)
                all_goals go_meet
                all_goals exact ⟨rfl, He⟩
              case rest =>
                obtain ⟨rfl, HC⟩ := hcut
                rename World => wF
                have HZ3 := Lib.hid (HZ2.out.below HC.out).1
                clear HZ2 HB2 HC
                go_wp2_with fail
                ((with_reducible refine (HZ3.out.j.s.all HL8.out).mono ?_); rintro e wG ⟨A4, c4, rfl, hr4, _, hb4, hf4⟩)
                have HZ4 := Lib.hid (HZ3.out.fresh (vo := .slice A4 l1.length c4) hb4 fun x hx => ⟨hf4 x hx, hr4.own.lt hx⟩)
                have HO4 := Lib.hid hr4.own
                clear hr4 hb4 hf4 HZ3
                go_wp2_with fail
                ((with_reducible refine (HZ4.out.spoil HO4.out (fun x hx => by rw [hx]; simp)).mono ?_); rintro e wH ⟨rfl, hz5, _⟩)
                have HZ5 := Lib.hid (hz5.sub (Z' := []) (by simp))
                clear hz5 HZ4 HO4
                go_wp2_with fail
                go_roundw
                case rel => exact ⟨i + 1, by omega, by go_num, Lib.hid ⟨_, _, _, _, HZ5.out, HLE.out⟩⟩
                case measure => simp [intOf]; omega
    · have hnl : ¬ (i : Int) < (n : Int) := by omega
      go_upto_region 27 with (fail)
      go_cut [2] (fun x wx => x = .bool true ∧ Hid (Below W.heap.size W wx))
      case first =>
        have HJ0 := Lib.hid (HZ.out.below (Below.refl _ wr).drew).1.j
        have x0 := HJ0.out.d.k.cell 0
        dsimp only [List.getElem?_cons_zero] at x0
        go_region_with (first
          | (go_at_call 15; with_reducible refine (HJ0.out.s.all HL9.out).mono ?_; rintro e wa ⟨A2, c2, rfl, hr, _, hb, _⟩; have Hr := Lib.hid hr; have Ha := Lib.hid (HJ0.out.below hb); have a0 := Ha.out.d.k.cell 0; dsimp only [List.getElem?_cons_zero] at a0; clear hr hb)
          | (go_at_call 10; with_reducible refine (same_eq Hr.out.own.see Ha.out.d.row.see (by have := HL9.out; omega) rfl).mono ?_; rintro e wb ⟨rfl, hb⟩; have Hb := Lib.hid (Ha.out.below hb).s.low; clear hb)
          | (go_at_call 7; with_reducible refine (lives_any _).mono ?_; rintro e wc ⟨rfl, hb⟩; have Hc := Lib.hid (Hb.out.trans (hb.mono Hb.out.size)); clear hb))
        all_goals (go_wp2_with fail)
        all_goals go_meet
        all_goals exact ⟨rfl, Hc⟩
      case rest =>
        obtain ⟨rfl, HC⟩ := hcut
        go_wp2_with fail
        go_ret
        exact ⟨rfl, HC.out⟩
end Go.Proofs.Ythcclgnadhcndaa
