/-
  NARROWER THAN 'FOR EVERY INPUT', by the rows' own cells (each row's printed sentence says how): FreesPlay: laid · FreesVoid: laid · FreesOnce: laid · FreesStack: laid.
  DERIVED. THE GIVEN ROWS OF THIS SEAT. 4 by the template 'for every input the law returns true; each argument reads behind the call as it read before'; 0 by the template 'total and deterministic' (their statements: YtipgidkpjilhoaaDoorTotals.lean).
  GIVEN WITH THE SEED: the statements are not yours to turn. If you find one false, say at which input.
  Laid BY PROGRAM, IN A SANDBOX (cutbox-rows.mjs): the forced cells as the released guide's own fill.sh prints them over the translation 164b12d5668228f7… (all of the seat's roots in one cut). By AI agents, Wed Nov 11 2026. No macro, syntax, notation, axiom, sorry.
-/
import Derived.Test.YtipgidkpjilhoaaDoorChecked
import GoSem.Claim
import GoSem.ClaimJoined
import GoSem.ClaimMapViews
import Derived.JoinedTies
import Derived.KernelRfl
namespace Go.Proofs.YtipgidkpjilhoaaDoor
/- THE CELL 'sum', in the pinned program and in every row, IS THE sha256 OF THE DUMP (.gsa) THAT YtipgidkpjilhoaaDoorProg.lean LOADS. Nothing in Lean hashes anything: it is a label: what it is worth is what the hold of that sum in a sandbox is worth. -/
noncomputable def Tryd.pinned : Pinned := { name := "ytipgidkpjilhoaadoor", sum := "164b12d5668228f70043fa83a24a1315b4b8bfec5037c8e9937cd4c630e1fee2", checked := Tryd.checked }
namespace Rows
def none {H : Type} : Left H := { results := [], args := [] }

/- WHAT THE LISTED PACKAGE-LEVEL VARIABLES READ AS WHEN THE CALL BEGINS. Each datum BY PROGRAM (the guide's laid-datum.mjs) off the statement by which the dump's own 'gosem.cut.vars' lays the variable. In a bare row this is a premise. The card (YtipgidkpjilhoaaDoorCards.lean) ties it to the program's text. -/
def laid_ragpicker_mems_rooms {H : Type} : DataW H := .agg [.agg [.lit (.int .i64 1), .lit (.int .i64 1)], .agg [.lit (.int .i64 1), .lit (.int .i64 1)], .agg [.lit (.int .i64 1), .lit (.int .i64 1)], .agg [.lit (.int .i64 1), .lit (.int .i64 1)], .agg [.lit (.int .i64 1), .lit (.int .i64 1)], .agg [.lit (.int .i64 1), .lit (.int .i64 1)], .agg [.lit (.int .i64 32), .lit (.int .i64 2)], .agg [.lit (.int .i64 4), .lit (.int .i64 1)], .agg [.lit (.int .i64 16), .lit (.int .i64 10)], .agg [.lit (.int .i64 256), .lit (.int .i64 8)], .agg [.lit (.int .i64 9), .lit (.int .i64 1)], .agg [.lit (.int .i64 1), .lit (.int .i64 2)]]
def laid_ragpicker_words_layout {H : Type} : DataW H := .agg [.agg [.lit (.int .u8 0), .lit (.int .u8 16)], .agg [.lit (.int .u8 16), .lit (.int .u8 32)], .agg [.lit (.int .u8 63), .lit (.int .u8 1)], .agg [.lit (.int .u8 0), .lit (.int .u8 16)], .agg [.lit (.int .u8 16), .lit (.int .u8 48)], .agg [.lit (.int .u8 0), .lit (.int .u8 3)], .agg [.lit (.int .u8 3), .lit (.int .u8 32)], .agg [.lit (.int .u8 0), .lit (.int .u8 3)], .agg [.lit (.int .u8 3), .lit (.int .u8 3)], .agg [.lit (.int .u8 6), .lit (.int .u8 3)], .agg [.lit (.int .u8 16), .lit (.int .u8 48)], .agg [.lit (.int .u8 0), .lit (.int .u8 32)], .agg [.lit (.int .u8 32), .lit (.int .u8 1)]]

/-- 'ragpickerlaw07.FreesPlay': WHATEVER THE INPUT: true; the input reads as it did. -/
def freesPlaySpec : ChangeSpec := { name := "freesPlay", fn := fun _ => fun
  | [d1, d2] => { results := [.lit (.bool true)], args := [d1, d2] }
  | _ => none }
def freesPlayRow : OpenClaim := { program := "ytipgidkpjilhoaadoor", sum := "164b12d5668228f70043fa83a24a1315b4b8bfec5037c8e9937cd4c630e1fee2", func := "ragpicker/ragpickerlaw07.FreesPlay", spec := "freesPlay", unfollowed := true, recurses := true, named := ["ragpicker/words.layout", "ragpicker/mems.rooms"], plainKeys := false, apart := false, laid := [("ragpicker/mems.rooms", laid_ragpicker_mems_rooms), ("ragpicker/words.layout", laid_ragpicker_words_layout)] }
def FreesPlaySaid : Prop := freesPlayRow.holds Tryd.pinned (OpenSpec.ofChange freesPlaySpec)

/-- ITS FALSE NEIGHBOUR: 'it returns false'. Refute it at one input. -/
def freesPlayWrong : ChangeSpec := { name := "freesPlay", fn := fun _ => fun
  | [d1, d2] => { results := [.lit (.bool false)], args := [d1, d2] }
  | _ => none }
def FreesPlayWrongFalsely : Prop := freesPlayRow.holds Tryd.pinned (OpenSpec.ofChange freesPlayWrong)

/-- 'ragpickerlaw07.FreesVoid': WHATEVER THE INPUT: true; the input reads as it did. -/
def freesVoidSpec : ChangeSpec := { name := "freesVoid", fn := fun _ => fun
  | [d1, d2] => { results := [.lit (.bool true)], args := [d1, d2] }
  | _ => none }
def freesVoidRow : OpenClaim := { program := "ytipgidkpjilhoaadoor", sum := "164b12d5668228f70043fa83a24a1315b4b8bfec5037c8e9937cd4c630e1fee2", func := "ragpicker/ragpickerlaw07.FreesVoid", spec := "freesVoid", unfollowed := true, recurses := true, named := ["ragpicker/words.layout", "ragpicker/mems.rooms"], plainKeys := false, apart := false, laid := [("ragpicker/mems.rooms", laid_ragpicker_mems_rooms), ("ragpicker/words.layout", laid_ragpicker_words_layout)] }
def FreesVoidSaid : Prop := freesVoidRow.holds Tryd.pinned (OpenSpec.ofChange freesVoidSpec)

/-- ITS FALSE NEIGHBOUR: 'it returns false'. Refute it at one input. -/
def freesVoidWrong : ChangeSpec := { name := "freesVoid", fn := fun _ => fun
  | [d1, d2] => { results := [.lit (.bool false)], args := [d1, d2] }
  | _ => none }
def FreesVoidWrongFalsely : Prop := freesVoidRow.holds Tryd.pinned (OpenSpec.ofChange freesVoidWrong)

/-- 'ragpickerlaw07.FreesOnce': WHATEVER THE INPUT: true; the input reads as it did. -/
def freesOnceSpec : ChangeSpec := { name := "freesOnce", fn := fun _ => fun
  | [d1, d2] => { results := [.lit (.bool true)], args := [d1, d2] }
  | _ => none }
def freesOnceRow : OpenClaim := { program := "ytipgidkpjilhoaadoor", sum := "164b12d5668228f70043fa83a24a1315b4b8bfec5037c8e9937cd4c630e1fee2", func := "ragpicker/ragpickerlaw07.FreesOnce", spec := "freesOnce", unfollowed := true, recurses := true, named := ["ragpicker/words.layout", "ragpicker/mems.rooms"], plainKeys := false, apart := false, laid := [("ragpicker/mems.rooms", laid_ragpicker_mems_rooms), ("ragpicker/words.layout", laid_ragpicker_words_layout)] }
def FreesOnceSaid : Prop := freesOnceRow.holds Tryd.pinned (OpenSpec.ofChange freesOnceSpec)

/-- ITS FALSE NEIGHBOUR: 'it returns false'. Refute it at one input. -/
def freesOnceWrong : ChangeSpec := { name := "freesOnce", fn := fun _ => fun
  | [d1, d2] => { results := [.lit (.bool false)], args := [d1, d2] }
  | _ => none }
def FreesOnceWrongFalsely : Prop := freesOnceRow.holds Tryd.pinned (OpenSpec.ofChange freesOnceWrong)

/-- 'ragpickerlaw07.FreesStack': WHATEVER THE INPUT: true; the input reads as it did. -/
def freesStackSpec : ChangeSpec := { name := "freesStack", fn := fun _ => fun
  | [d] => { results := [.lit (.bool true)], args := [d] }
  | _ => none }
def freesStackRow : OpenClaim := { program := "ytipgidkpjilhoaadoor", sum := "164b12d5668228f70043fa83a24a1315b4b8bfec5037c8e9937cd4c630e1fee2", func := "ragpicker/ragpickerlaw07.FreesStack", spec := "freesStack", unfollowed := true, recurses := true, named := ["ragpicker/words.layout", "ragpicker/mems.rooms"], plainKeys := false, apart := false, laid := [("ragpicker/mems.rooms", laid_ragpicker_mems_rooms), ("ragpicker/words.layout", laid_ragpicker_words_layout)] }
def FreesStackSaid : Prop := freesStackRow.holds Tryd.pinned (OpenSpec.ofChange freesStackSpec)

/-- ITS FALSE NEIGHBOUR: 'it returns false'. Refute it at one input. -/
def freesStackWrong : ChangeSpec := { name := "freesStack", fn := fun _ => fun
  | [d] => { results := [.lit (.bool false)], args := [d] }
  | _ => none }
def FreesStackWrongFalsely : Prop := freesStackRow.holds Tryd.pinned (OpenSpec.ofChange freesStackWrong)

/- THE SECOND FORM. 'bulk': how many values and letters a reading holds, each counted each time it is reached (what is shared counts as often as it is met; a slice's spare places count too). A statement '..UptoSaid' is the law's where the arguments, and the package variables that the reading takes, are together of bulk at most 1048576: NARROWER than '..Said'. Prove '..Said' where nothing that the law and all that it calls make is longer than what came in: it says more and counts as full. Else prove '..UptoSaid'. A law counts once. -/
mutual
def uptoBulk {H : Type} : DataW H → Nat
  | .lit (.string bytes) => bytes.length + 1
  | .lit _ => 1
  | .nil => 1
  | .ptr d => uptoBulk d + 1
  | .slice elems spare => uptoBulkAll elems + uptoBulkAll spare + 1
  | .agg parts => uptoBulkAll parts + 1
  | .iface _ d => uptoBulk d + 1
  | .map entries => uptoBulkEntries entries + 1
  | .held _ => 1
def uptoBulkAll {H : Type} : List (DataW H) → Nat
  | [] => 0
  | d :: r => uptoBulk d + uptoBulkAll r
def uptoBulkEntries {H : Type} : List (Lit × DataW H) → Nat
  | [] => 0
  | x :: r => uptoBulkEntry x + uptoBulkEntries r
def uptoBulkEntry {H : Type} : Lit × DataW H → Nat
  | (.string bytes, d) => bytes.length + uptoBulk d + 1
  | (_, d) => uptoBulk d + 1
 end
def uptoSmall : (H : Type) → List (DataW H) → Bool := fun _ ds => decide (uptoBulkAll ds ≤ 1048576)
def OpenSpec.upto (s : _root_.Go.ChangeSpec) : _root_.Go.OpenSpec := { _root_.Go.OpenSpec.ofChange s with cond := some uptoSmall }

/-- 'ragpickerlaw07.FreesPlay', WHERE WHAT IT READS IS OF BULK AT MOST 1048576: true; the input reads as it did. -/
def freesPlayUptoRow : OpenClaim := { program := "ytipgidkpjilhoaadoor", sum := "164b12d5668228f70043fa83a24a1315b4b8bfec5037c8e9937cd4c630e1fee2", func := "ragpicker/ragpickerlaw07.FreesPlay", spec := "freesPlay", unfollowed := true, recurses := true, named := ["ragpicker/words.layout", "ragpicker/mems.rooms"], plainKeys := false, apart := false, laid := [("ragpicker/mems.rooms", laid_ragpicker_mems_rooms), ("ragpicker/words.layout", laid_ragpicker_words_layout)], narrowed := true }
def FreesPlayUptoSaid : Prop := freesPlayUptoRow.holds Tryd.pinned (OpenSpec.upto freesPlaySpec)

/-- 'ragpickerlaw07.FreesVoid', WHERE WHAT IT READS IS OF BULK AT MOST 1048576: true; the input reads as it did. -/
def freesVoidUptoRow : OpenClaim := { program := "ytipgidkpjilhoaadoor", sum := "164b12d5668228f70043fa83a24a1315b4b8bfec5037c8e9937cd4c630e1fee2", func := "ragpicker/ragpickerlaw07.FreesVoid", spec := "freesVoid", unfollowed := true, recurses := true, named := ["ragpicker/words.layout", "ragpicker/mems.rooms"], plainKeys := false, apart := false, laid := [("ragpicker/mems.rooms", laid_ragpicker_mems_rooms), ("ragpicker/words.layout", laid_ragpicker_words_layout)], narrowed := true }
def FreesVoidUptoSaid : Prop := freesVoidUptoRow.holds Tryd.pinned (OpenSpec.upto freesVoidSpec)

/-- 'ragpickerlaw07.FreesOnce', WHERE WHAT IT READS IS OF BULK AT MOST 1048576: true; the input reads as it did. -/
def freesOnceUptoRow : OpenClaim := { program := "ytipgidkpjilhoaadoor", sum := "164b12d5668228f70043fa83a24a1315b4b8bfec5037c8e9937cd4c630e1fee2", func := "ragpicker/ragpickerlaw07.FreesOnce", spec := "freesOnce", unfollowed := true, recurses := true, named := ["ragpicker/words.layout", "ragpicker/mems.rooms"], plainKeys := false, apart := false, laid := [("ragpicker/mems.rooms", laid_ragpicker_mems_rooms), ("ragpicker/words.layout", laid_ragpicker_words_layout)], narrowed := true }
def FreesOnceUptoSaid : Prop := freesOnceUptoRow.holds Tryd.pinned (OpenSpec.upto freesOnceSpec)

/-- 'ragpickerlaw07.FreesStack', WHERE WHAT IT READS IS OF BULK AT MOST 1048576: true; the input reads as it did. -/
def freesStackUptoRow : OpenClaim := { program := "ytipgidkpjilhoaadoor", sum := "164b12d5668228f70043fa83a24a1315b4b8bfec5037c8e9937cd4c630e1fee2", func := "ragpicker/ragpickerlaw07.FreesStack", spec := "freesStack", unfollowed := true, recurses := true, named := ["ragpicker/words.layout", "ragpicker/mems.rooms"], plainKeys := false, apart := false, laid := [("ragpicker/mems.rooms", laid_ragpicker_mems_rooms), ("ragpicker/words.layout", laid_ragpicker_words_layout)], narrowed := true }
def FreesStackUptoSaid : Prop := freesStackUptoRow.holds Tryd.pinned (OpenSpec.upto freesStackSpec)

end Rows
end Go.Proofs.YtipgidkpjilhoaaDoor
