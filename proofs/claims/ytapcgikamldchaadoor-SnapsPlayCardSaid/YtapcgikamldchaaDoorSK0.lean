/-
  Package snaps: a taker's cells, whose first one keeps the line that comes next as a method value with its place; a new one, whether one is over, a step of one; condition: it lies as it says.
-/
import Derived.Test.YtapcgikamldchaaDoorSD2
import Derived.Laws.EntriesVeiled
namespace Go.Proofs.YtapcgikamldchaaDoor
open Go.RowKit Go.Maps

/-- A method with its place, as it lies in a cell. -/
def mvV (f : Nat) (i j : Int) : Value := .func (.func f) #[.agg #[.int .i64 i, .int .i64 j]] #[]
/-- A taker's cells: what comes next, how many threads, sixteen threads' words. -/
def TKc (f : Value) (n : Int) (g : List TH) : List Value := f :: .int .i64 n :: flatH g
section
variable {q p b : Nat} {cs : List Value} {w w' : World} {f i j n : Int} {g : List TH} {M : MV}
theorem nil_nilF (w : World) : Sem.run Tryd.prog (binOp .eql 55 .nilFunc .nilFunc) w = .ok (.bool true) w := by kernel_rfl
set_option maxRecDepth 100000 in
theorem fn_nilF (w : World) (f : Fn) (a b : Array Value) : Sem.run Tryd.prog (binOp .eql 55 (.func f a b) .nilFunc) w = .ok (.bool false) w := by rfl
theorem zeroT_eq : Tryd.zeroCells59 = (TKc .nilFunc 0 (List.replicate 16 TH.zero)).toArray := by kernel_rfl
set_option maxRecDepth 100000 in
theorem newF (w : World) : Calls Tryd.prog 9 #[] w fun e w' => e = .returned (.pointer (some ⟨w.heap.size, 0, none⟩)) ∧ Bq w.heap.size 59 (TKc (mvV 27 0 0) 0 (List.replicate 16 TH.zero)) w' ∧ Below w.heap.size w w' := by
  have HB := Lib.hid ((Below.refl w.heap.size w).alloc (Nat.le_refl _) (.cells (Tryd.zeroCells59.setIfInBounds 0 (mvV 27 0 0)) 59))
  have HQ := Lib.hid (show Bq w.heap.size 59 (TKc (mvV 27 0 0) 0 (List.replicate 16 TH.zero)) (w.alloc (.cells (Tryd.zeroCells59.setIfInBounds 0 (mvV 27 0 0)) 59)) from by
    rw [zeroT_eq]
    exact Bq.new w (TKc (mvV 27 0 0) 0 (List.replicate 16 TH.zero)) 59)
  go_enter Tryd.func9, Tryd.ntmps9
  go_wp2_with fail
  go_ret
  exact ⟨rfl, HQ.out, HB.out⟩
set_option maxRecDepth 100000 in
theorem overF_nil (w : World) : Calls Tryd.prog 16 #[.pointer none] w fun e w' => e = .returned (.bool true) ∧ w' = w := by
  go_enter Tryd.func16, Tryd.ntmps16
  go_wp2_with fail
  go_ret
  exact ⟨rfl, rfl⟩
set_option maxRecDepth 100000 in
theorem overF_0 (h : Bq q 59 (.nilFunc :: cs) w) : Calls Tryd.prog 16 #[.pointer (some ⟨q, 0, none⟩)] w fun e w' => e = .returned (.bool true) ∧ w' = w := by
  have h0 : w.cell? ⟨q, 0, none⟩ = some .nilFunc := h.cell 0
  have e1 := nil_nilF w
  clear h
  go_enter Tryd.func16, Tryd.ntmps16
  go_wp2_with fail
  go_ret
  exact ⟨rfl, rfl⟩
set_option maxRecDepth 100000 in
theorem overF_1 {f : Nat} {i j : Int} (h : Bq q 59 (mvV f i j :: cs) w) : Calls Tryd.prog 16 #[.pointer (some ⟨q, 0, none⟩)] w fun e w' => e = .returned (.bool false) ∧ w' = w := by
  have h0 : w.cell? ⟨q, 0, none⟩ = some (.func (.func f) #[.agg #[.int .i64 i, .int .i64 j]] #[]) := h.cell 0
  have e1 := fn_nilF w (.func f) #[.agg #[.int .i64 i, .int .i64 j]] #[]
  clear h
  go_enter Tryd.func16, Tryd.ntmps16
  go_wp2_with fail
  go_ret
  exact ⟨rfl, rfl⟩
set_option maxRecDepth 100000 in
theorem stepF_nil (v : Value) (w : World) : Calls Tryd.prog 15 #[.pointer none, v] w fun e w' => e = .returned (.bool true) ∧ w' = w := by
  go_enter Tryd.func15, Tryd.ntmps15
  go_wp2_with fail
  ((with_reducible refine (overF_nil _).mono ?_); rintro e1 w1 ⟨rfl, rfl⟩)
  go_wp2_with fail
  ((with_reducible refine (overF_nil _).mono ?_); rintro e1 w1 ⟨rfl, rfl⟩)
  go_wp2_with fail
  go_ret
  exact ⟨rfl, rfl⟩
set_option maxRecDepth 100000 in
theorem stepF_0 {v : Value} (h : Bq q 59 (.nilFunc :: cs) w) : Calls Tryd.prog 15 #[.pointer (some ⟨q, 0, none⟩), v] w fun e w' => e = .returned (.bool true) ∧ w' = w := by
  have HH := Lib.hid h
  clear h
  go_enter Tryd.func15, Tryd.ntmps15
  go_wp2_with fail
  ((with_reducible refine (overF_0 HH.out).mono ?_); rintro e1 w1 ⟨rfl, rfl⟩)
  go_wp2_with fail
  ((with_reducible refine (overF_0 HH.out).mono ?_); rintro e1 w1 ⟨rfl, rfl⟩)
  go_wp2_with fail
  go_ret
  exact ⟨rfl, rfl⟩
/-- What is over behind a step. -/
def OvV (f : Value) : Prop := f = .nilFunc ∨ ∃ k i j, f = mvV k i j
def ovB (f : Value) : Bool := match f with
  | .nilFunc => true
  | _ => false
theorem overF {f : Value} (hf : OvV f) (h : Bq q 59 (f :: cs) w) : Calls Tryd.prog 16 #[.pointer (some ⟨q, 0, none⟩)] w fun e w' => e = .returned (.bool (ovB f)) ∧ w' = w := by
  rcases hf with rfl | ⟨k, i, j, rfl⟩
  · exact overF_0 h
  · exact overF_1 h
set_option maxRecDepth 100000 in
/-- A step: the method that is kept is called with its place, the taker and the memory. -/
theorem stepF {f : Nat} {i j : Int} {Q : Ending → World → Prop} (hk : f = 27 ∨ f = 45 ∨ f = 55) (h : Bq q 59 (mvV f i j :: cs) w)
    (hs : Calls Tryd.prog f #[.agg #[.int .i64 i, .int .i64 j], .pointer (some ⟨q, 0, none⟩), .pointer (some ⟨p, 0, none⟩)] w fun e w' => e = .returned (.tuple #[]) ∧ ∃ f' cs', OvV f' ∧ Bq q 59 (f' :: cs') w' ∧ Q (.returned (.bool (ovB f'))) w') :
    Calls Tryd.prog 15 #[.pointer (some ⟨q, 0, none⟩), .pointer (some ⟨p, 0, none⟩)] w Q := by
  have h0 : w.cell? ⟨q, 0, none⟩ = some (.func (.func f) #[.agg #[.int .i64 i, .int .i64 j]] #[]) := h.cell 0
  have HH := Lib.hid h
  have HS := Lib.hid hs
  clear h hs
  rcases hk with rfl | rfl | rfl
  · go_enter Tryd.func15, Tryd.ntmps15
    go_wp2_with fail
    ((with_reducible refine (overF_1 HH.out).mono ?_); rintro e1 w1 ⟨rfl, rfl⟩)
    go_wp2_with fail
    ((with_reducible refine (HS.out).mono ?_); rintro e1 w2 ⟨rfl, f', cs', hf, h2, hq⟩)
    have HQ := Lib.hid hq
    have H2 := Lib.hid h2
    have HF := Lib.hid hf
    clear hq h2 h0 hf
    go_wp2_with fail
    ((with_reducible refine (overF HF.out H2.out).mono ?_); rintro e1 w3 ⟨rfl, rfl⟩)
    go_wp2_with fail
    exact HQ.out
  · go_enter Tryd.func15, Tryd.ntmps15
    go_wp2_with fail
    ((with_reducible refine (overF_1 HH.out).mono ?_); rintro e1 w1 ⟨rfl, rfl⟩)
    go_wp2_with fail
    ((with_reducible refine (HS.out).mono ?_); rintro e1 w2 ⟨rfl, f', cs', hf, h2, hq⟩)
    have HQ := Lib.hid hq
    have H2 := Lib.hid h2
    have HF := Lib.hid hf
    clear hq h2 h0 hf
    go_wp2_with fail
    ((with_reducible refine (overF HF.out H2.out).mono ?_); rintro e1 w3 ⟨rfl, rfl⟩)
    go_wp2_with fail
    exact HQ.out
  · go_enter Tryd.func15, Tryd.ntmps15
    go_wp2_with fail
    ((with_reducible refine (overF_1 HH.out).mono ?_); rintro e1 w1 ⟨rfl, rfl⟩)
    go_wp2_with fail
    ((with_reducible refine (HS.out).mono ?_); rintro e1 w2 ⟨rfl, f', cs', hf, h2, hq⟩)
    have HQ := Lib.hid hq
    have H2 := Lib.hid h2
    have HF := Lib.hid hf
    clear hq h2 h0 hf
    go_wp2_with fail
    ((with_reducible refine (overF HF.out H2.out).mono ?_); rintro e1 w3 ⟨rfl, rfl⟩)
    go_wp2_with fail
    exact HQ.out
end
end Go.Proofs.YtapcgikamldchaaDoor
