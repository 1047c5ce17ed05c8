/-
  Package frees: the lines of a Push that hangs the list behind its slot, and of both that swap the head; condition: the tables as laid, the operation and the memory lie as they say, numbers of their kinds.
-/
import Derived.Test.YtffkjdmpeeagoaaDoorF2
namespace Go.Proofs.YtffkjdmpeeagoaaDoor
open Go.RowKit Go.Maps

section
variable {t : TypeId} {p b q n : Nat} {nx h to : Int} {D : DataW Unit} {st ak k a f was is : Int} {done : Bool} {w w' : World}
theorem below_drew_n (w : World) (n : Nat) : Below w.drew.heap.size w.drew (w.drewN n) := ⟨rfl, rfl, rfl, Nat.le_refl _, fun _ _ => rfl⟩
theorem u64_0 : U64 0 := ⟨by decide, by decide⟩
/-- What a drawn region reads of an operation. -/
def OpS (q : Nat) (nx h to : Int) (W : World) : Prop := W.cell? ⟨q, 0, none⟩ = some (.int .i64 nx) ∧ W.cell? ⟨q, 1, none⟩ = some (.int .u64 h) ∧ W.cell? ⟨q, 2, none⟩ = some (.int .i64 to)
theorem OpAt.s (o : OpAt t q nx h to w) : OpS q nx h to w := ⟨by simpa using o.cell 0, by simpa using o.cell 1, by simpa using o.cell 2⟩

theorem store9 (hto : I64w to) {v : Int} (hv : (Lit.int .u64 v).wf = true) (hs0 : 0 ≤ st) (hs1 : st < 4611686018427387904) (hn : n < 4611686018427387904) (hl : LayM w) (m : PM p b n D st ak k a f was is done w) :
    Calls Tryd.prog 32 #[.pointer (some ⟨p, 0, none⟩), .agg #[.int .u8 9, .int .i64 to, .int .i64 2], .int .u64 v] w fun e w' => e = .returned (.tuple #[]) ∧ PM p b (n + 1) (storeD D (adL to hto) v) (st + 1) 2 9 to 2 (valD D (adL to hto)) (valD (storeD D (adL to hto) v) (adL to hto)) false w' ∧ Only p b w w' :=
  store_prog p b n D st ak k a f was is done (adL to hto) v hv hs0 hs1 hn w hl m
theorem cas0 {u v : Int} {c : Bool} (hc : casB D adF u = c) (hv : (Lit.int .u64 v).wf = true) (hs0 : 0 ≤ st) (hs1 : st < 4611686018427387904) (hn : n < 4611686018427387904) (hl : LayM w) (m : PM p b n D st ak k a f was is done w) :
    Calls Tryd.prog 104 #[.pointer (some ⟨p, 0, none⟩), .agg #[.int .u8 0, .int .i64 0, .int .i64 0], .int .u64 u, .int .u64 v] w fun e w' => e = .returned (.bool c) ∧ PM p b (n + 1) (casD D adF u v) (st + 1) 3 0 0 0 (valD D adF) (valD (casD D adF u v) adF) c w' ∧ Only p b w w' := by
  subst hc
  exact cas_prog p b n D st ak k a f was is done adF u v hv hs0 hs1 hn w hl m
theorem tag_wrap (h : Int) : IntKind.u64.wrap (fld h 16 48 + 1) = fld h 16 48 + 1 := by
  have h1 := fld_nonneg h 16 48
  have h2 := fld_lt h 16 48
  rw [p48] at h2
  rw [IntKind.wrap_u64]
  omega
theorem tag_u64 (h : Int) : U64 (fld h 16 48 + 1) := by
  have h1 := fld_nonneg h 16 48
  have h2 := fld_lt h 16 48
  rw [p48] at h2
  exact ⟨by omega, by omega⟩
/-- What both swap the head h to, for slot s. -/
def nextW (h s : Int) : Int := headW s (fld h 16 48 + 1)
end
end Go.Proofs.YtffkjdmpeeagoaaDoor
