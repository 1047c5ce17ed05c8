/-
  NARROWER THAN 'FOR EVERY INPUT', by the rows' own cells (each row's printed sentence says how): MemsPlay: laid · MemsVoid: laid · MemsOne: laid.
  DERIVED. THE GIVEN ROWS OF THIS SEAT. 3 by the template 'for every input the law returns true; each argument reads behind the call as it read before'; 0 by the template 'total and deterministic' (their statements: YtfnlkapiflkceaaDoorTotals.lean).
  GIVEN WITH THE SEED: the statements are not yours to turn. If you find one false, say at which input.
  Laid BY PROGRAM, IN A SANDBOX (cutbox-rows.mjs): the forced cells as the released guide's own fill.sh prints them over the translation 39c5c01aae9b3ee7… (all of the seat's roots in one cut). By AI agents, Wed Nov 11 2026. No macro, syntax, notation, axiom, sorry.
-/
import Derived.Test.YtfnlkapiflkceaaDoorChecked
import GoSem.Claim
import GoSem.ClaimJoined
import GoSem.ClaimMapViews
import Derived.JoinedTies
import Derived.KernelRfl
namespace Go.Proofs.YtfnlkapiflkceaaDoor
/- THE CELL 'sum', in the pinned program and in every row, IS THE sha256 OF THE DUMP (.gsa) THAT YtfnlkapiflkceaaDoorProg.lean LOADS. Nothing in Lean hashes anything: it is a label: what it is worth is what the hold of that sum in a sandbox is worth. -/
noncomputable def Tryd.pinned : Pinned := { name := "ytfnlkapiflkceaadoor", sum := "39c5c01aae9b3ee74088b125abab63d3b3016edb54f8df84f5372a4906f9c903", checked := Tryd.checked }
namespace Rows
def none {H : Type} : Left H := { results := [], args := [] }

/- WHAT THE LISTED PACKAGE-LEVEL VARIABLES READ AS WHEN THE CALL BEGINS. Each datum BY PROGRAM (the guide's laid-datum.mjs) off the statement by which the dump's own 'gosem.cut.vars' lays the variable. In a bare row this is a premise. The card (YtfnlkapiflkceaaDoorCards.lean) ties it to the program's text. -/
def laid_ragpicker_mems_rooms {H : Type} : DataW H := .agg [.agg [.lit (.int .i64 1), .lit (.int .i64 1)], .agg [.lit (.int .i64 1), .lit (.int .i64 1)], .agg [.lit (.int .i64 1), .lit (.int .i64 1)], .agg [.lit (.int .i64 1), .lit (.int .i64 1)], .agg [.lit (.int .i64 1), .lit (.int .i64 1)], .agg [.lit (.int .i64 1), .lit (.int .i64 1)], .agg [.lit (.int .i64 32), .lit (.int .i64 2)], .agg [.lit (.int .i64 4), .lit (.int .i64 1)], .agg [.lit (.int .i64 16), .lit (.int .i64 10)], .agg [.lit (.int .i64 256), .lit (.int .i64 8)], .agg [.lit (.int .i64 9), .lit (.int .i64 1)], .agg [.lit (.int .i64 1), .lit (.int .i64 2)]]

/-- 'ragpickerlaw02.MemsPlay': WHATEVER THE INPUT: true; the input reads as it did. -/
def memsPlaySpec : ChangeSpec := { name := "memsPlay", fn := fun _ => fun
  | [d] => { results := [.lit (.bool true)], args := [d] }
  | _ => none }
def memsPlayRow : OpenClaim := { program := "ytfnlkapiflkceaadoor", sum := "39c5c01aae9b3ee74088b125abab63d3b3016edb54f8df84f5372a4906f9c903", func := "ragpicker/ragpickerlaw02.MemsPlay", spec := "memsPlay", unfollowed := true, recurses := true, named := ["ragpicker/mems.rooms"], plainKeys := false, apart := false, laid := [("ragpicker/mems.rooms", laid_ragpicker_mems_rooms)] }
def MemsPlaySaid : Prop := memsPlayRow.holds Tryd.pinned (OpenSpec.ofChange memsPlaySpec)

/-- ITS FALSE NEIGHBOUR: 'it returns false'. Refute it at one input. -/
def memsPlayWrong : ChangeSpec := { name := "memsPlay", fn := fun _ => fun
  | [d] => { results := [.lit (.bool false)], args := [d] }
  | _ => none }
def MemsPlayWrongFalsely : Prop := memsPlayRow.holds Tryd.pinned (OpenSpec.ofChange memsPlayWrong)

/-- 'ragpickerlaw02.MemsVoid': WHATEVER THE INPUT: true; the input reads as it did. -/
def memsVoidSpec : ChangeSpec := { name := "memsVoid", fn := fun _ => fun
  | [d1, d2, d3] => { results := [.lit (.bool true)], args := [d1, d2, d3] }
  | _ => none }
def memsVoidRow : OpenClaim := { program := "ytfnlkapiflkceaadoor", sum := "39c5c01aae9b3ee74088b125abab63d3b3016edb54f8df84f5372a4906f9c903", func := "ragpicker/ragpickerlaw02.MemsVoid", spec := "memsVoid", unfollowed := true, recurses := true, named := ["ragpicker/mems.rooms"], plainKeys := false, apart := false, laid := [("ragpicker/mems.rooms", laid_ragpicker_mems_rooms)] }
def MemsVoidSaid : Prop := memsVoidRow.holds Tryd.pinned (OpenSpec.ofChange memsVoidSpec)

/-- ITS FALSE NEIGHBOUR: 'it returns false'. Refute it at one input. -/
def memsVoidWrong : ChangeSpec := { name := "memsVoid", fn := fun _ => fun
  | [d1, d2, d3] => { results := [.lit (.bool false)], args := [d1, d2, d3] }
  | _ => none }
def MemsVoidWrongFalsely : Prop := memsVoidRow.holds Tryd.pinned (OpenSpec.ofChange memsVoidWrong)

/-- 'ragpickerlaw02.MemsOne': WHATEVER THE INPUT: true; the input reads as it did. -/
def memsOneSpec : ChangeSpec := { name := "memsOne", fn := fun _ => fun
  | [d1, d2, d3] => { results := [.lit (.bool true)], args := [d1, d2, d3] }
  | _ => none }
def memsOneRow : OpenClaim := { program := "ytfnlkapiflkceaadoor", sum := "39c5c01aae9b3ee74088b125abab63d3b3016edb54f8df84f5372a4906f9c903", func := "ragpicker/ragpickerlaw02.MemsOne", spec := "memsOne", unfollowed := true, recurses := true, named := ["ragpicker/mems.rooms"], plainKeys := false, apart := false, laid := [("ragpicker/mems.rooms", laid_ragpicker_mems_rooms)] }
def MemsOneSaid : Prop := memsOneRow.holds Tryd.pinned (OpenSpec.ofChange memsOneSpec)

/-- ITS FALSE NEIGHBOUR: 'it returns false'. Refute it at one input. -/
def memsOneWrong : ChangeSpec := { name := "memsOne", fn := fun _ => fun
  | [d1, d2, d3] => { results := [.lit (.bool false)], args := [d1, d2, d3] }
  | _ => none }
def MemsOneWrongFalsely : Prop := memsOneRow.holds Tryd.pinned (OpenSpec.ofChange memsOneWrong)

/- THE SECOND FORM. 'bulk': how many values and letters a reading holds, each counted each time it is reached (what is shared counts as often as it is met; a slice's spare places count too). A statement '..UptoSaid' is the law's where the arguments, and the package variables that the reading takes, are together of bulk at most 1048576: NARROWER than '..Said'. Prove '..Said' where nothing that the law and all that it calls make is longer than what came in: it says more and counts as full. Else prove '..UptoSaid'. A law counts once. -/
mutual
def uptoBulk {H : Type} : DataW H → Nat
  | .lit (.string bytes) => bytes.length + 1
  | .lit _ => 1
  | .nil => 1
  | .ptr d => uptoBulk d + 1
  | .slice elems spare => uptoBulkAll elems + uptoBulkAll spare + 1
  | .agg parts => uptoBulkAll parts + 1
  | .iface _ d => uptoBulk d + 1
  | .map entries => uptoBulkEntries entries + 1
  | .held _ => 1
def uptoBulkAll {H : Type} : List (DataW H) → Nat
  | [] => 0
  | d :: r => uptoBulk d + uptoBulkAll r
def uptoBulkEntries {H : Type} : List (Lit × DataW H) → Nat
  | [] => 0
  | x :: r => uptoBulkEntry x + uptoBulkEntries r
def uptoBulkEntry {H : Type} : Lit × DataW H → Nat
  | (.string bytes, d) => bytes.length + uptoBulk d + 1
  | (_, d) => uptoBulk d + 1
 end
def uptoSmall : (H : Type) → List (DataW H) → Bool := fun _ ds => decide (uptoBulkAll ds ≤ 1048576)
def OpenSpec.upto (s : _root_.Go.ChangeSpec) : _root_.Go.OpenSpec := { _root_.Go.OpenSpec.ofChange s with cond := some uptoSmall }

/-- 'ragpickerlaw02.MemsPlay', WHERE WHAT IT READS IS OF BULK AT MOST 1048576: true; the input reads as it did. -/
def memsPlayUptoRow : OpenClaim := { program := "ytfnlkapiflkceaadoor", sum := "39c5c01aae9b3ee74088b125abab63d3b3016edb54f8df84f5372a4906f9c903", func := "ragpicker/ragpickerlaw02.MemsPlay", spec := "memsPlay", unfollowed := true, recurses := true, named := ["ragpicker/mems.rooms"], plainKeys := false, apart := false, laid := [("ragpicker/mems.rooms", laid_ragpicker_mems_rooms)], narrowed := true }
def MemsPlayUptoSaid : Prop := memsPlayUptoRow.holds Tryd.pinned (OpenSpec.upto memsPlaySpec)

/-- 'ragpickerlaw02.MemsVoid', WHERE WHAT IT READS IS OF BULK AT MOST 1048576: true; the input reads as it did. -/
def memsVoidUptoRow : OpenClaim := { program := "ytfnlkapiflkceaadoor", sum := "39c5c01aae9b3ee74088b125abab63d3b3016edb54f8df84f5372a4906f9c903", func := "ragpicker/ragpickerlaw02.MemsVoid", spec := "memsVoid", unfollowed := true, recurses := true, named := ["ragpicker/mems.rooms"], plainKeys := false, apart := false, laid := [("ragpicker/mems.rooms", laid_ragpicker_mems_rooms)], narrowed := true }
def MemsVoidUptoSaid : Prop := memsVoidUptoRow.holds Tryd.pinned (OpenSpec.upto memsVoidSpec)

/-- 'ragpickerlaw02.MemsOne', WHERE WHAT IT READS IS OF BULK AT MOST 1048576: true; the input reads as it did. -/
def memsOneUptoRow : OpenClaim := { program := "ytfnlkapiflkceaadoor", sum := "39c5c01aae9b3ee74088b125abab63d3b3016edb54f8df84f5372a4906f9c903", func := "ragpicker/ragpickerlaw02.MemsOne", spec := "memsOne", unfollowed := true, recurses := true, named := ["ragpicker/mems.rooms"], plainKeys := false, apart := false, laid := [("ragpicker/mems.rooms", laid_ragpicker_mems_rooms)], narrowed := true }
def MemsOneUptoSaid : Prop := memsOneUptoRow.holds Tryd.pinned (OpenSpec.upto memsOneSpec)

end Rows
end Go.Proofs.YtfnlkapiflkceaaDoor
