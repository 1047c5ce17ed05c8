/-
  The count of steps and the last access of a memory; no condition.
-/
import Derived.Test.YtapcgikamldchaaDoorP1
namespace Go.Proofs.YtapcgikamldchaaDoor
open Go.RowKit Go.Maps

/-- The count of steps and the last access. -/
structure Acc8 where
  st : Int
  ak : Int
  k : Int
  a : Int
  f : Int
  was : Int
  is : Int
  done : Bool
def Acc8.touch (s : Acc8) (ak : Int) (x : Ad) (was is : Int) (done : Bool) : Acc8 := ⟨s.st + 1, ak, x.k, x.a, x.f, was, is, done⟩
end Go.Proofs.YtapcgikamldchaaDoor
