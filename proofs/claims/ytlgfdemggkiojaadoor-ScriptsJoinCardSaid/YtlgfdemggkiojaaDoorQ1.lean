/-
  Two commands compared, as the program has them and as the document has them: equal just if they are the same command; no condition.
-/
import Derived.Test.YtlgfdemggkiojaaDoorR7
namespace Go.Proofs.YtlgfdemggkiojaaDoor
open Go.RowKit

/-- Are nine numbers the same nine? -/
def same9 (k fr u a t s o ky v k' fr' u' a' t' s' o' ky' v' : Int) : Bool := decide ((⟨k, fr, u, a, t, s, o, ky, v⟩ : Cm) = ⟨k', fr', u', a', t', s', o', ky', v'⟩)
set_option maxRecDepth 100000 in
set_option maxHeartbeats 4000000 in
theorem eql34 (k fr u a t s o ky v k' fr' u' a' t' s' o' ky' v' : Int) (w : World) : (binOp .eql 34 (.agg #[.int .u8 k, .int .i64 fr, .int .i64 u, .int .i64 a, .int .i64 t, .int .u8 s, .int .u8 o, .int .u64 ky, .int .u64 v]) (.agg #[.int .u8 k', .int .i64 fr', .int .i64 u', .int .i64 a', .int .i64 t', .int .u8 s', .int .u8 o', .int .u64 ky', .int .u64 v'])).run Tryd.prog w = .ok (.bool (same9 k fr u a t s o ky v k' fr' u' a' t' s' o' ky' v')) w := by
  have hS : Tryd.prog.underlying 34 = some (.struct (Tryd.prog.fieldsOf 34)) := by kernel_rfl
  have hp : Tryd.prog.stoodInHeld 34 = false := by kernel_rfl
  have u3 := Tryd.underlying3
  have a3 := Tryd.isAgg3
  have z3 := Tryd.sizeOf3
  have u29 := Tryd.underlying29
  have a29 := Tryd.isAgg29
  have z29 := Tryd.sizeOf29
  have u30 := Tryd.underlying30
  have a30 := Tryd.isAgg30
  have z30 := Tryd.sizeOf30
  have u31 := Tryd.underlying31
  have a31 := Tryd.isAgg31
  have z31 := Tryd.sizeOf31
  have u32 := Tryd.underlying32
  have a32 := Tryd.isAgg32
  have z32 := Tryd.sizeOf32
  rw [run_eql_struct, show (10000 : Nat) = 9999 + 1 from rfl, run_equalIn_agg w 9999 34 _ _ hS hp]
  simp only [Program.fieldsOf, Tryd.underlying34]
  clear hS hp
  unfold same9
  go_simp
  by_cases hk : k = k'
  · subst hk
    by_cases hfr : fr = fr'
    · subst hfr
      by_cases hu : u = u'
      · subst hu
        by_cases ha : a = a'
        · subst ha
          by_cases ht : t = t'
          · subst ht
            by_cases hs : s = s'
            · subst hs
              by_cases ho : o = o'
              · subst ho
                by_cases hky : ky = ky'
                · subst hky
                  by_cases hv : v = v'
                  · subst hv
                    simp
                  · simp [hv]
                · simp [hky]
              · simp [ho]
            · simp [hs]
          · simp [ht]
        · simp [ha]
      · simp [hu]
    · simp [hfr]
  · simp [hk]
set_option maxRecDepth 100000 in
set_option maxHeartbeats 4000000 in
theorem neq34 (k fr u a t s o ky v k' fr' u' a' t' s' o' ky' v' : Int) (w : World) : (binOp .neq 34 (.agg #[.int .u8 k, .int .i64 fr, .int .i64 u, .int .i64 a, .int .i64 t, .int .u8 s, .int .u8 o, .int .u64 ky, .int .u64 v]) (.agg #[.int .u8 k', .int .i64 fr', .int .i64 u', .int .i64 a', .int .i64 t', .int .u8 s', .int .u8 o', .int .u64 ky', .int .u64 v'])).run Tryd.prog w = .ok (.bool (!same9 k fr u a t s o ky v k' fr' u' a' t' s' o' ky' v')) w := by
  have hS : Tryd.prog.underlying 34 = some (.struct (Tryd.prog.fieldsOf 34)) := by kernel_rfl
  have hp : Tryd.prog.stoodInHeld 34 = false := by kernel_rfl
  have u3 := Tryd.underlying3
  have a3 := Tryd.isAgg3
  have z3 := Tryd.sizeOf3
  have u29 := Tryd.underlying29
  have a29 := Tryd.isAgg29
  have z29 := Tryd.sizeOf29
  have u30 := Tryd.underlying30
  have a30 := Tryd.isAgg30
  have z30 := Tryd.sizeOf30
  have u31 := Tryd.underlying31
  have a31 := Tryd.isAgg31
  have z31 := Tryd.sizeOf31
  have u32 := Tryd.underlying32
  have a32 := Tryd.isAgg32
  have z32 := Tryd.sizeOf32
  rw [run_neq_struct, show (10000 : Nat) = 9999 + 1 from rfl, run_equalIn_agg w 9999 34 _ _ hS hp]
  simp only [Program.fieldsOf, Tryd.underlying34]
  clear hS hp
  unfold same9
  go_simp
  by_cases hk : k = k'
  · subst hk
    by_cases hfr : fr = fr'
    · subst hfr
      by_cases hu : u = u'
      · subst hu
        by_cases ha : a = a'
        · subst ha
          by_cases ht : t = t'
          · subst ht
            by_cases hs : s = s'
            · subst hs
              by_cases ho : o = o'
              · subst ho
                by_cases hky : ky = ky'
                · subst hky
                  by_cases hv : v = v'
                  · subst hv
                    simp
                  · simp [hv]
                · simp [hky]
              · simp [ho]
            · simp [hs]
          · simp [ht]
        · simp [ha]
      · simp [hu]
    · simp [hfr]
  · simp [hk]
set_option maxRecDepth 100000 in
set_option maxHeartbeats 4000000 in
theorem eql38 (k fr u a t s o ky v k' fr' u' a' t' s' o' ky' v' : Int) (w : World) : (binOp .eql 38 (.agg #[.int .i64 k, .int .i64 fr, .int .i64 u, .int .i64 a, .int .i64 t, .int .u8 s, .int .i64 o, .int .u64 ky, .int .u64 v]) (.agg #[.int .i64 k', .int .i64 fr', .int .i64 u', .int .i64 a', .int .i64 t', .int .u8 s', .int .i64 o', .int .u64 ky', .int .u64 v'])).run Tryd.prog w = .ok (.bool (same9 k fr u a t s o ky v k' fr' u' a' t' s' o' ky' v')) w := by
  have hS : Tryd.prog.underlying 38 = some (.struct (Tryd.prog.fieldsOf 38)) := by kernel_rfl
  have hp : Tryd.prog.stoodInHeld 38 = false := by kernel_rfl
  have u3 := Tryd.underlying3
  have a3 := Tryd.isAgg3
  have z3 := Tryd.sizeOf3
  have u29 := Tryd.underlying29
  have a29 := Tryd.isAgg29
  have z29 := Tryd.sizeOf29
  have u30 := Tryd.underlying30
  have a30 := Tryd.isAgg30
  have z30 := Tryd.sizeOf30
  have u31 := Tryd.underlying31
  have a31 := Tryd.isAgg31
  have z31 := Tryd.sizeOf31
  have u32 := Tryd.underlying32
  have a32 := Tryd.isAgg32
  have z32 := Tryd.sizeOf32
  rw [run_eql_struct, show (10000 : Nat) = 9999 + 1 from rfl, run_equalIn_agg w 9999 38 _ _ hS hp]
  simp only [Program.fieldsOf, Tryd.underlying38]
  clear hS hp
  unfold same9
  go_simp
  by_cases hk : k = k'
  · subst hk
    by_cases hfr : fr = fr'
    · subst hfr
      by_cases hu : u = u'
      · subst hu
        by_cases ha : a = a'
        · subst ha
          by_cases ht : t = t'
          · subst ht
            by_cases hs : s = s'
            · subst hs
              by_cases ho : o = o'
              · subst ho
                by_cases hky : ky = ky'
                · subst hky
                  by_cases hv : v = v'
                  · subst hv
                    simp
                  · simp [hv]
                · simp [hky]
              · simp [ho]
            · simp [hs]
          · simp [ht]
        · simp [ha]
      · simp [hu]
    · simp [hfr]
  · simp [hk]
set_option maxRecDepth 100000 in
set_option maxHeartbeats 4000000 in
theorem neq38 (k fr u a t s o ky v k' fr' u' a' t' s' o' ky' v' : Int) (w : World) : (binOp .neq 38 (.agg #[.int .i64 k, .int .i64 fr, .int .i64 u, .int .i64 a, .int .i64 t, .int .u8 s, .int .i64 o, .int .u64 ky, .int .u64 v]) (.agg #[.int .i64 k', .int .i64 fr', .int .i64 u', .int .i64 a', .int .i64 t', .int .u8 s', .int .i64 o', .int .u64 ky', .int .u64 v'])).run Tryd.prog w = .ok (.bool (!same9 k fr u a t s o ky v k' fr' u' a' t' s' o' ky' v')) w := by
  have hS : Tryd.prog.underlying 38 = some (.struct (Tryd.prog.fieldsOf 38)) := by kernel_rfl
  have hp : Tryd.prog.stoodInHeld 38 = false := by kernel_rfl
  have u3 := Tryd.underlying3
  have a3 := Tryd.isAgg3
  have z3 := Tryd.sizeOf3
  have u29 := Tryd.underlying29
  have a29 := Tryd.isAgg29
  have z29 := Tryd.sizeOf29
  have u30 := Tryd.underlying30
  have a30 := Tryd.isAgg30
  have z30 := Tryd.sizeOf30
  have u31 := Tryd.underlying31
  have a31 := Tryd.isAgg31
  have z31 := Tryd.sizeOf31
  have u32 := Tryd.underlying32
  have a32 := Tryd.isAgg32
  have z32 := Tryd.sizeOf32
  rw [run_neq_struct, show (10000 : Nat) = 9999 + 1 from rfl, run_equalIn_agg w 9999 38 _ _ hS hp]
  simp only [Program.fieldsOf, Tryd.underlying38]
  clear hS hp
  unfold same9
  go_simp
  by_cases hk : k = k'
  · subst hk
    by_cases hfr : fr = fr'
    · subst hfr
      by_cases hu : u = u'
      · subst hu
        by_cases ha : a = a'
        · subst ha
          by_cases ht : t = t'
          · subst ht
            by_cases hs : s = s'
            · subst hs
              by_cases ho : o = o'
              · subst ho
                by_cases hky : ky = ky'
                · subst hky
                  by_cases hv : v = v'
                  · subst hv
                    simp
                  · simp [hv]
                · simp [hky]
              · simp [ho]
            · simp [hs]
          · simp [ht]
        · simp [ha]
      · simp [hu]
    · simp [hfr]
  · simp [hk]
end Go.Proofs.YtlgfdemggkiojaaDoor
