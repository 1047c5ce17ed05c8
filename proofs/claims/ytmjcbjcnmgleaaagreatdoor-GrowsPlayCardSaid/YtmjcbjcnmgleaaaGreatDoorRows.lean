/-
  NARROWER THAN 'FOR EVERY INPUT', by the rows' own cells (each row's printed sentence says how): GrowsPlay: laid · GrowsVoid: laid · GrowsWhole: laid · GrowsBack: laid.
  DERIVED. THE GIVEN ROWS OF THIS SEAT. 4 by the template 'for every input the law returns true; each argument reads behind the call as it read before'; 0 by the template 'total and deterministic' (their statements: YtmjcbjcnmgleaaaGreatDoorTotals.lean).
  GIVEN WITH THE SEED: the statements are not yours to turn. If you find one false, say at which input.
  Laid BY PROGRAM, IN A SANDBOX (cutbox-rows.mjs): the forced cells as the released guide's own fill.sh prints them over the translation 425ec050d33919c6… (all of the seat's roots in one cut). By AI agents, Wed Nov 11 2026. No macro, syntax, notation, axiom, sorry.
-/
import Derived.Test.YtmjcbjcnmgleaaaGreatDoorChecked
import GoSem.Claim
import GoSem.ClaimJoined
import GoSem.ClaimMapViews
import Derived.JoinedTies
import Derived.KernelRfl
namespace Go.Proofs.YtmjcbjcnmgleaaaGreatDoor
/- THE CELL 'sum', in the pinned program and in every row, IS THE sha256 OF THE DUMP (.gsa) THAT YtmjcbjcnmgleaaaGreatDoorProg.lean LOADS. Nothing in Lean hashes anything: it is a label: what it is worth is what the hold of that sum in a sandbox is worth. -/
noncomputable def Tryz.pinned : Pinned := { name := "ytmjcbjcnmgleaaagreatdoor", sum := "425ec050d33919c69553bfcd6a982dc8c5c4e4cf1a78215a344191ef63b3378e", checked := Tryz.checked }
namespace Rows
def none {H : Type} : Left H := { results := [], args := [] }

/- WHAT THE LISTED PACKAGE-LEVEL VARIABLES READ AS WHEN THE CALL BEGINS. Each datum BY PROGRAM (the guide's laid-datum.mjs) off the statement by which the dump's own 'gosem.cut.vars' lays the variable. In a bare row this is a premise. The card (YtmjcbjcnmgleaaaGreatDoorCards.lean) ties it to the program's text. -/
def laid_ragpicker_mems_rooms {H : Type} : DataW H := .agg [.agg [.lit (.int .i64 1), .lit (.int .i64 1)], .agg [.lit (.int .i64 1), .lit (.int .i64 1)], .agg [.lit (.int .i64 1), .lit (.int .i64 1)], .agg [.lit (.int .i64 1), .lit (.int .i64 1)], .agg [.lit (.int .i64 1), .lit (.int .i64 1)], .agg [.lit (.int .i64 1), .lit (.int .i64 1)], .agg [.lit (.int .i64 32), .lit (.int .i64 2)], .agg [.lit (.int .i64 4), .lit (.int .i64 1)], .agg [.lit (.int .i64 16), .lit (.int .i64 10)], .agg [.lit (.int .i64 256), .lit (.int .i64 8)], .agg [.lit (.int .i64 9), .lit (.int .i64 1)], .agg [.lit (.int .i64 1), .lit (.int .i64 2)]]
def laid_ragpicker_words_layout {H : Type} : DataW H := .agg [.agg [.lit (.int .u8 0), .lit (.int .u8 16)], .agg [.lit (.int .u8 16), .lit (.int .u8 32)], .agg [.lit (.int .u8 63), .lit (.int .u8 1)], .agg [.lit (.int .u8 0), .lit (.int .u8 16)], .agg [.lit (.int .u8 16), .lit (.int .u8 48)], .agg [.lit (.int .u8 0), .lit (.int .u8 3)], .agg [.lit (.int .u8 3), .lit (.int .u8 32)], .agg [.lit (.int .u8 0), .lit (.int .u8 3)], .agg [.lit (.int .u8 3), .lit (.int .u8 3)], .agg [.lit (.int .u8 6), .lit (.int .u8 3)], .agg [.lit (.int .u8 16), .lit (.int .u8 48)], .agg [.lit (.int .u8 0), .lit (.int .u8 32)], .agg [.lit (.int .u8 32), .lit (.int .u8 1)]]

/-- 'ragpickerlaw09.GrowsPlay': WHATEVER THE INPUT: true; the input reads as it did. -/
def growsPlaySpec : ChangeSpec := { name := "growsPlay", fn := fun _ => fun
  | [d1, d2] => { results := [.lit (.bool true)], args := [d1, d2] }
  | _ => none }
def growsPlayRow : OpenClaim := { program := "ytmjcbjcnmgleaaagreatdoor", sum := "425ec050d33919c69553bfcd6a982dc8c5c4e4cf1a78215a344191ef63b3378e", func := "ragpicker/ragpickerlaw09.GrowsPlay", spec := "growsPlay", unfollowed := true, recurses := true, named := ["ragpicker/mems.rooms", "ragpicker/words.layout"], plainKeys := false, apart := false, laid := [("ragpicker/mems.rooms", laid_ragpicker_mems_rooms), ("ragpicker/words.layout", laid_ragpicker_words_layout)] }
def GrowsPlaySaid : Prop := growsPlayRow.holds Tryz.pinned (OpenSpec.ofChange growsPlaySpec)

/-- ITS FALSE NEIGHBOUR: 'it returns false'. Refute it at one input. -/
def growsPlayWrong : ChangeSpec := { name := "growsPlay", fn := fun _ => fun
  | [d1, d2] => { results := [.lit (.bool false)], args := [d1, d2] }
  | _ => none }
def GrowsPlayWrongFalsely : Prop := growsPlayRow.holds Tryz.pinned (OpenSpec.ofChange growsPlayWrong)

/-- 'ragpickerlaw09.GrowsVoid': WHATEVER THE INPUT: true; the input reads as it did. -/
def growsVoidSpec : ChangeSpec := { name := "growsVoid", fn := fun _ => fun
  | [d1, d2, d3] => { results := [.lit (.bool true)], args := [d1, d2, d3] }
  | _ => none }
def growsVoidRow : OpenClaim := { program := "ytmjcbjcnmgleaaagreatdoor", sum := "425ec050d33919c69553bfcd6a982dc8c5c4e4cf1a78215a344191ef63b3378e", func := "ragpicker/ragpickerlaw09.GrowsVoid", spec := "growsVoid", unfollowed := true, recurses := true, named := ["ragpicker/mems.rooms", "ragpicker/words.layout"], plainKeys := false, apart := false, laid := [("ragpicker/mems.rooms", laid_ragpicker_mems_rooms), ("ragpicker/words.layout", laid_ragpicker_words_layout)] }
def GrowsVoidSaid : Prop := growsVoidRow.holds Tryz.pinned (OpenSpec.ofChange growsVoidSpec)

/-- ITS FALSE NEIGHBOUR: 'it returns false'. Refute it at one input. -/
def growsVoidWrong : ChangeSpec := { name := "growsVoid", fn := fun _ => fun
  | [d1, d2, d3] => { results := [.lit (.bool false)], args := [d1, d2, d3] }
  | _ => none }
def GrowsVoidWrongFalsely : Prop := growsVoidRow.holds Tryz.pinned (OpenSpec.ofChange growsVoidWrong)

/-- 'ragpickerlaw09.GrowsWhole': WHATEVER THE INPUT: true; the input reads as it did. -/
def growsWholeSpec : ChangeSpec := { name := "growsWhole", fn := fun _ => fun
  | [d1, d2, d3] => { results := [.lit (.bool true)], args := [d1, d2, d3] }
  | _ => none }
def growsWholeRow : OpenClaim := { program := "ytmjcbjcnmgleaaagreatdoor", sum := "425ec050d33919c69553bfcd6a982dc8c5c4e4cf1a78215a344191ef63b3378e", func := "ragpicker/ragpickerlaw09.GrowsWhole", spec := "growsWhole", unfollowed := true, recurses := true, named := ["ragpicker/mems.rooms", "ragpicker/words.layout"], plainKeys := false, apart := false, laid := [("ragpicker/mems.rooms", laid_ragpicker_mems_rooms), ("ragpicker/words.layout", laid_ragpicker_words_layout)] }
def GrowsWholeSaid : Prop := growsWholeRow.holds Tryz.pinned (OpenSpec.ofChange growsWholeSpec)

/-- ITS FALSE NEIGHBOUR: 'it returns false'. Refute it at one input. -/
def growsWholeWrong : ChangeSpec := { name := "growsWhole", fn := fun _ => fun
  | [d1, d2, d3] => { results := [.lit (.bool false)], args := [d1, d2, d3] }
  | _ => none }
def GrowsWholeWrongFalsely : Prop := growsWholeRow.holds Tryz.pinned (OpenSpec.ofChange growsWholeWrong)

/-- 'ragpickerlaw09.GrowsBack': WHATEVER THE INPUT: true; the input reads as it did. -/
def growsBackSpec : ChangeSpec := { name := "growsBack", fn := fun _ => fun
  | [d1, d2, d3] => { results := [.lit (.bool true)], args := [d1, d2, d3] }
  | _ => none }
def growsBackRow : OpenClaim := { program := "ytmjcbjcnmgleaaagreatdoor", sum := "425ec050d33919c69553bfcd6a982dc8c5c4e4cf1a78215a344191ef63b3378e", func := "ragpicker/ragpickerlaw09.GrowsBack", spec := "growsBack", unfollowed := true, recurses := true, named := ["ragpicker/mems.rooms", "ragpicker/words.layout"], plainKeys := false, apart := false, laid := [("ragpicker/mems.rooms", laid_ragpicker_mems_rooms), ("ragpicker/words.layout", laid_ragpicker_words_layout)] }
def GrowsBackSaid : Prop := growsBackRow.holds Tryz.pinned (OpenSpec.ofChange growsBackSpec)

/-- ITS FALSE NEIGHBOUR: 'it returns false'. Refute it at one input. -/
def growsBackWrong : ChangeSpec := { name := "growsBack", fn := fun _ => fun
  | [d1, d2, d3] => { results := [.lit (.bool false)], args := [d1, d2, d3] }
  | _ => none }
def GrowsBackWrongFalsely : Prop := growsBackRow.holds Tryz.pinned (OpenSpec.ofChange growsBackWrong)

/- THE SECOND FORM. 'bulk': how many values and letters a reading holds, each counted each time it is reached (what is shared counts as often as it is met; a slice's spare places count too). A statement '..UptoSaid' is the law's where the arguments, and the package variables that the reading takes, are together of bulk at most 1048576: NARROWER than '..Said'. Prove '..Said' where nothing that the law and all that it calls make is longer than what came in: it says more and counts as full. Else prove '..UptoSaid'. A law counts once. -/
mutual
def uptoBulk {H : Type} : DataW H → Nat
  | .lit (.string bytes) => bytes.length + 1
  | .lit _ => 1
  | .nil => 1
  | .ptr d => uptoBulk d + 1
  | .slice elems spare => uptoBulkAll elems + uptoBulkAll spare + 1
  | .agg parts => uptoBulkAll parts + 1
  | .iface _ d => uptoBulk d + 1
  | .map entries => uptoBulkEntries entries + 1
  | .held _ => 1
def uptoBulkAll {H : Type} : List (DataW H) → Nat
  | [] => 0
  | d :: r => uptoBulk d + uptoBulkAll r
def uptoBulkEntries {H : Type} : List (Lit × DataW H) → Nat
  | [] => 0
  | x :: r => uptoBulkEntry x + uptoBulkEntries r
def uptoBulkEntry {H : Type} : Lit × DataW H → Nat
  | (.string bytes, d) => bytes.length + uptoBulk d + 1
  | (_, d) => uptoBulk d + 1
 end
def uptoSmall : (H : Type) → List (DataW H) → Bool := fun _ ds => decide (uptoBulkAll ds ≤ 1048576)
def OpenSpec.upto (s : _root_.Go.ChangeSpec) : _root_.Go.OpenSpec := { _root_.Go.OpenSpec.ofChange s with cond := some uptoSmall }

/-- 'ragpickerlaw09.GrowsPlay', WHERE WHAT IT READS IS OF BULK AT MOST 1048576: true; the input reads as it did. -/
def growsPlayUptoRow : OpenClaim := { program := "ytmjcbjcnmgleaaagreatdoor", sum := "425ec050d33919c69553bfcd6a982dc8c5c4e4cf1a78215a344191ef63b3378e", func := "ragpicker/ragpickerlaw09.GrowsPlay", spec := "growsPlay", unfollowed := true, recurses := true, named := ["ragpicker/mems.rooms", "ragpicker/words.layout"], plainKeys := false, apart := false, laid := [("ragpicker/mems.rooms", laid_ragpicker_mems_rooms), ("ragpicker/words.layout", laid_ragpicker_words_layout)], narrowed := true }
def GrowsPlayUptoSaid : Prop := growsPlayUptoRow.holds Tryz.pinned (OpenSpec.upto growsPlaySpec)

/-- 'ragpickerlaw09.GrowsVoid', WHERE WHAT IT READS IS OF BULK AT MOST 1048576: true; the input reads as it did. -/
def growsVoidUptoRow : OpenClaim := { program := "ytmjcbjcnmgleaaagreatdoor", sum := "425ec050d33919c69553bfcd6a982dc8c5c4e4cf1a78215a344191ef63b3378e", func := "ragpicker/ragpickerlaw09.GrowsVoid", spec := "growsVoid", unfollowed := true, recurses := true, named := ["ragpicker/mems.rooms", "ragpicker/words.layout"], plainKeys := false, apart := false, laid := [("ragpicker/mems.rooms", laid_ragpicker_mems_rooms), ("ragpicker/words.layout", laid_ragpicker_words_layout)], narrowed := true }
def GrowsVoidUptoSaid : Prop := growsVoidUptoRow.holds Tryz.pinned (OpenSpec.upto growsVoidSpec)

/-- 'ragpickerlaw09.GrowsWhole', WHERE WHAT IT READS IS OF BULK AT MOST 1048576: true; the input reads as it did. -/
def growsWholeUptoRow : OpenClaim := { program := "ytmjcbjcnmgleaaagreatdoor", sum := "425ec050d33919c69553bfcd6a982dc8c5c4e4cf1a78215a344191ef63b3378e", func := "ragpicker/ragpickerlaw09.GrowsWhole", spec := "growsWhole", unfollowed := true, recurses := true, named := ["ragpicker/mems.rooms", "ragpicker/words.layout"], plainKeys := false, apart := false, laid := [("ragpicker/mems.rooms", laid_ragpicker_mems_rooms), ("ragpicker/words.layout", laid_ragpicker_words_layout)], narrowed := true }
def GrowsWholeUptoSaid : Prop := growsWholeUptoRow.holds Tryz.pinned (OpenSpec.upto growsWholeSpec)

/-- 'ragpickerlaw09.GrowsBack', WHERE WHAT IT READS IS OF BULK AT MOST 1048576: true; the input reads as it did. -/
def growsBackUptoRow : OpenClaim := { program := "ytmjcbjcnmgleaaagreatdoor", sum := "425ec050d33919c69553bfcd6a982dc8c5c4e4cf1a78215a344191ef63b3378e", func := "ragpicker/ragpickerlaw09.GrowsBack", spec := "growsBack", unfollowed := true, recurses := true, named := ["ragpicker/mems.rooms", "ragpicker/words.layout"], plainKeys := false, apart := false, laid := [("ragpicker/mems.rooms", laid_ragpicker_mems_rooms), ("ragpicker/words.layout", laid_ragpicker_words_layout)], narrowed := true }
def GrowsBackUptoSaid : Prop := growsBackUptoRow.holds Tryz.pinned (OpenSpec.upto growsBackSpec)

end Rows
end Go.Proofs.YtmjcbjcnmgleaaaGreatDoor
