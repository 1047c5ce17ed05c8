/-
  NARROWER THAN 'FOR EVERY INPUT', by the rows' own cells (each row's printed sentence says how): BlocksPlay: laid · BlocksVoid: laid · BlocksTable: laid · BlocksEmpty: laid · BlocksMost: laid.
  DERIVED. THE GIVEN ROWS OF THIS SEAT. 5 by the template 'for every input the law returns true; each argument reads behind the call as it read before'; 0 by the template 'total and deterministic' (their statements: YtffkjdmpeeagoaaDoorTotals.lean).
  GIVEN WITH THE SEED: the statements are not yours to turn. If you find one false, say at which input.
  Laid BY PROGRAM, IN A SANDBOX (cutbox-rows.mjs): the forced cells as the released guide's own fill.sh prints them over the translation a9524d024d02bdc3… (all of the seat's roots in one cut). By AI agents, Wed Nov 11 2026. No macro, syntax, notation, axiom, sorry.
-/
import Derived.Test.YtffkjdmpeeagoaaDoorChecked
import GoSem.Claim
import GoSem.ClaimJoined
import GoSem.ClaimMapViews
import Derived.JoinedTies
import Derived.KernelRfl
namespace Go.Proofs.YtffkjdmpeeagoaaDoor
/- THE CELL 'sum', in the pinned program and in every row, IS THE sha256 OF THE DUMP (.gsa) THAT YtffkjdmpeeagoaaDoorProg.lean LOADS. Nothing in Lean hashes anything: it is a label: what it is worth is what the hold of that sum in a sandbox is worth. -/
noncomputable def Tryd.pinned : Pinned := { name := "ytffkjdmpeeagoaadoor", sum := "a9524d024d02bdc3b1d63e8739213d9572058b57fd4c28cfe7d4bde948013a7c", checked := Tryd.checked }
namespace Rows
def none {H : Type} : Left H := { results := [], args := [] }

/- WHAT THE LISTED PACKAGE-LEVEL VARIABLES READ AS WHEN THE CALL BEGINS. Each datum BY PROGRAM (the guide's laid-datum.mjs) off the statement by which the dump's own 'gosem.cut.vars' lays the variable. In a bare row this is a premise. The card (YtffkjdmpeeagoaaDoorCards.lean) ties it to the program's text. -/
def laid_ragpicker_mems_rooms {H : Type} : DataW H := .agg [.agg [.lit (.int .i64 1), .lit (.int .i64 1)], .agg [.lit (.int .i64 1), .lit (.int .i64 1)], .agg [.lit (.int .i64 1), .lit (.int .i64 1)], .agg [.lit (.int .i64 1), .lit (.int .i64 1)], .agg [.lit (.int .i64 1), .lit (.int .i64 1)], .agg [.lit (.int .i64 1), .lit (.int .i64 1)], .agg [.lit (.int .i64 32), .lit (.int .i64 2)], .agg [.lit (.int .i64 4), .lit (.int .i64 1)], .agg [.lit (.int .i64 16), .lit (.int .i64 10)], .agg [.lit (.int .i64 256), .lit (.int .i64 8)], .agg [.lit (.int .i64 9), .lit (.int .i64 1)], .agg [.lit (.int .i64 1), .lit (.int .i64 2)]]
def laid_ragpicker_words_layout {H : Type} : DataW H := .agg [.agg [.lit (.int .u8 0), .lit (.int .u8 16)], .agg [.lit (.int .u8 16), .lit (.int .u8 32)], .agg [.lit (.int .u8 63), .lit (.int .u8 1)], .agg [.lit (.int .u8 0), .lit (.int .u8 16)], .agg [.lit (.int .u8 16), .lit (.int .u8 48)], .agg [.lit (.int .u8 0), .lit (.int .u8 3)], .agg [.lit (.int .u8 3), .lit (.int .u8 32)], .agg [.lit (.int .u8 0), .lit (.int .u8 3)], .agg [.lit (.int .u8 3), .lit (.int .u8 3)], .agg [.lit (.int .u8 6), .lit (.int .u8 3)], .agg [.lit (.int .u8 16), .lit (.int .u8 48)], .agg [.lit (.int .u8 0), .lit (.int .u8 32)], .agg [.lit (.int .u8 32), .lit (.int .u8 1)]]

/-- 'ragpickerlaw11.BlocksPlay': WHATEVER THE INPUT: true; the input reads as it did. -/
def blocksPlaySpec : ChangeSpec := { name := "blocksPlay", fn := fun _ => fun
  | [d1, d2] => { results := [.lit (.bool true)], args := [d1, d2] }
  | _ => none }
def blocksPlayRow : OpenClaim := { program := "ytffkjdmpeeagoaadoor", sum := "a9524d024d02bdc3b1d63e8739213d9572058b57fd4c28cfe7d4bde948013a7c", func := "ragpicker/ragpickerlaw11.BlocksPlay", spec := "blocksPlay", unfollowed := true, recurses := true, named := ["ragpicker/mems.rooms", "ragpicker/words.layout"], plainKeys := false, apart := false, laid := [("ragpicker/mems.rooms", laid_ragpicker_mems_rooms), ("ragpicker/words.layout", laid_ragpicker_words_layout)] }
def BlocksPlaySaid : Prop := blocksPlayRow.holds Tryd.pinned (OpenSpec.ofChange blocksPlaySpec)

/-- ITS FALSE NEIGHBOUR: 'it returns false'. Refute it at one input. -/
def blocksPlayWrong : ChangeSpec := { name := "blocksPlay", fn := fun _ => fun
  | [d1, d2] => { results := [.lit (.bool false)], args := [d1, d2] }
  | _ => none }
def BlocksPlayWrongFalsely : Prop := blocksPlayRow.holds Tryd.pinned (OpenSpec.ofChange blocksPlayWrong)

/-- 'ragpickerlaw11.BlocksVoid': WHATEVER THE INPUT: true; the input reads as it did. -/
def blocksVoidSpec : ChangeSpec := { name := "blocksVoid", fn := fun _ => fun
  | [d] => { results := [.lit (.bool true)], args := [d] }
  | _ => none }
def blocksVoidRow : OpenClaim := { program := "ytffkjdmpeeagoaadoor", sum := "a9524d024d02bdc3b1d63e8739213d9572058b57fd4c28cfe7d4bde948013a7c", func := "ragpicker/ragpickerlaw11.BlocksVoid", spec := "blocksVoid", unfollowed := true, recurses := true, named := ["ragpicker/mems.rooms", "ragpicker/words.layout"], plainKeys := false, apart := false, laid := [("ragpicker/mems.rooms", laid_ragpicker_mems_rooms), ("ragpicker/words.layout", laid_ragpicker_words_layout)] }
def BlocksVoidSaid : Prop := blocksVoidRow.holds Tryd.pinned (OpenSpec.ofChange blocksVoidSpec)

/-- ITS FALSE NEIGHBOUR: 'it returns false'. Refute it at one input. -/
def blocksVoidWrong : ChangeSpec := { name := "blocksVoid", fn := fun _ => fun
  | [d] => { results := [.lit (.bool false)], args := [d] }
  | _ => none }
def BlocksVoidWrongFalsely : Prop := blocksVoidRow.holds Tryd.pinned (OpenSpec.ofChange blocksVoidWrong)

/-- 'ragpickerlaw11.BlocksTable': WHATEVER THE INPUT: true; the input reads as it did. -/
def blocksTableSpec : ChangeSpec := { name := "blocksTable", fn := fun _ => fun
  | [d1, d2] => { results := [.lit (.bool true)], args := [d1, d2] }
  | _ => none }
def blocksTableRow : OpenClaim := { program := "ytffkjdmpeeagoaadoor", sum := "a9524d024d02bdc3b1d63e8739213d9572058b57fd4c28cfe7d4bde948013a7c", func := "ragpicker/ragpickerlaw11.BlocksTable", spec := "blocksTable", unfollowed := true, recurses := true, named := ["ragpicker/mems.rooms", "ragpicker/words.layout"], plainKeys := false, apart := false, laid := [("ragpicker/mems.rooms", laid_ragpicker_mems_rooms), ("ragpicker/words.layout", laid_ragpicker_words_layout)] }
def BlocksTableSaid : Prop := blocksTableRow.holds Tryd.pinned (OpenSpec.ofChange blocksTableSpec)

/-- ITS FALSE NEIGHBOUR: 'it returns false'. Refute it at one input. -/
def blocksTableWrong : ChangeSpec := { name := "blocksTable", fn := fun _ => fun
  | [d1, d2] => { results := [.lit (.bool false)], args := [d1, d2] }
  | _ => none }
def BlocksTableWrongFalsely : Prop := blocksTableRow.holds Tryd.pinned (OpenSpec.ofChange blocksTableWrong)

/-- 'ragpickerlaw11.BlocksEmpty': WHATEVER THE INPUT: true; the input reads as it did. -/
def blocksEmptySpec : ChangeSpec := { name := "blocksEmpty", fn := fun _ => fun
  | [d1, d2, d3] => { results := [.lit (.bool true)], args := [d1, d2, d3] }
  | _ => none }
def blocksEmptyRow : OpenClaim := { program := "ytffkjdmpeeagoaadoor", sum := "a9524d024d02bdc3b1d63e8739213d9572058b57fd4c28cfe7d4bde948013a7c", func := "ragpicker/ragpickerlaw11.BlocksEmpty", spec := "blocksEmpty", unfollowed := true, recurses := true, named := ["ragpicker/mems.rooms", "ragpicker/words.layout"], plainKeys := false, apart := false, laid := [("ragpicker/mems.rooms", laid_ragpicker_mems_rooms), ("ragpicker/words.layout", laid_ragpicker_words_layout)] }
def BlocksEmptySaid : Prop := blocksEmptyRow.holds Tryd.pinned (OpenSpec.ofChange blocksEmptySpec)

/-- ITS FALSE NEIGHBOUR: 'it returns false'. Refute it at one input. -/
def blocksEmptyWrong : ChangeSpec := { name := "blocksEmpty", fn := fun _ => fun
  | [d1, d2, d3] => { results := [.lit (.bool false)], args := [d1, d2, d3] }
  | _ => none }
def BlocksEmptyWrongFalsely : Prop := blocksEmptyRow.holds Tryd.pinned (OpenSpec.ofChange blocksEmptyWrong)

/-- 'ragpickerlaw11.BlocksMost': WHATEVER THE INPUT: true; the input reads as it did. -/
def blocksMostSpec : ChangeSpec := { name := "blocksMost", fn := fun _ => fun
  | [d1, d2, d3] => { results := [.lit (.bool true)], args := [d1, d2, d3] }
  | _ => none }
def blocksMostRow : OpenClaim := { program := "ytffkjdmpeeagoaadoor", sum := "a9524d024d02bdc3b1d63e8739213d9572058b57fd4c28cfe7d4bde948013a7c", func := "ragpicker/ragpickerlaw11.BlocksMost", spec := "blocksMost", unfollowed := true, recurses := true, named := ["ragpicker/mems.rooms", "ragpicker/words.layout"], plainKeys := false, apart := false, laid := [("ragpicker/mems.rooms", laid_ragpicker_mems_rooms), ("ragpicker/words.layout", laid_ragpicker_words_layout)] }
def BlocksMostSaid : Prop := blocksMostRow.holds Tryd.pinned (OpenSpec.ofChange blocksMostSpec)

/-- ITS FALSE NEIGHBOUR: 'it returns false'. Refute it at one input. -/
def blocksMostWrong : ChangeSpec := { name := "blocksMost", fn := fun _ => fun
  | [d1, d2, d3] => { results := [.lit (.bool false)], args := [d1, d2, d3] }
  | _ => none }
def BlocksMostWrongFalsely : Prop := blocksMostRow.holds Tryd.pinned (OpenSpec.ofChange blocksMostWrong)

/- THE SECOND FORM. 'bulk': how many values and letters a reading holds, each counted each time it is reached (what is shared counts as often as it is met; a slice's spare places count too). A statement '..UptoSaid' is the law's where the arguments, and the package variables that the reading takes, are together of bulk at most 1048576: NARROWER than '..Said'. Prove '..Said' where nothing that the law and all that it calls make is longer than what came in: it says more and counts as full. Else prove '..UptoSaid'. A law counts once. -/
mutual
def uptoBulk {H : Type} : DataW H → Nat
  | .lit (.string bytes) => bytes.length + 1
  | .lit _ => 1
  | .nil => 1
  | .ptr d => uptoBulk d + 1
  | .slice elems spare => uptoBulkAll elems + uptoBulkAll spare + 1
  | .agg parts => uptoBulkAll parts + 1
  | .iface _ d => uptoBulk d + 1
  | .map entries => uptoBulkEntries entries + 1
  | .held _ => 1
def uptoBulkAll {H : Type} : List (DataW H) → Nat
  | [] => 0
  | d :: r => uptoBulk d + uptoBulkAll r
def uptoBulkEntries {H : Type} : List (Lit × DataW H) → Nat
  | [] => 0
  | x :: r => uptoBulkEntry x + uptoBulkEntries r
def uptoBulkEntry {H : Type} : Lit × DataW H → Nat
  | (.string bytes, d) => bytes.length + uptoBulk d + 1
  | (_, d) => uptoBulk d + 1
 end
def uptoSmall : (H : Type) → List (DataW H) → Bool := fun _ ds => decide (uptoBulkAll ds ≤ 1048576)
def OpenSpec.upto (s : _root_.Go.ChangeSpec) : _root_.Go.OpenSpec := { _root_.Go.OpenSpec.ofChange s with cond := some uptoSmall }

/-- 'ragpickerlaw11.BlocksPlay', WHERE WHAT IT READS IS OF BULK AT MOST 1048576: true; the input reads as it did. -/
def blocksPlayUptoRow : OpenClaim := { program := "ytffkjdmpeeagoaadoor", sum := "a9524d024d02bdc3b1d63e8739213d9572058b57fd4c28cfe7d4bde948013a7c", func := "ragpicker/ragpickerlaw11.BlocksPlay", spec := "blocksPlay", unfollowed := true, recurses := true, named := ["ragpicker/mems.rooms", "ragpicker/words.layout"], plainKeys := false, apart := false, laid := [("ragpicker/mems.rooms", laid_ragpicker_mems_rooms), ("ragpicker/words.layout", laid_ragpicker_words_layout)], narrowed := true }
def BlocksPlayUptoSaid : Prop := blocksPlayUptoRow.holds Tryd.pinned (OpenSpec.upto blocksPlaySpec)

/-- 'ragpickerlaw11.BlocksVoid', WHERE WHAT IT READS IS OF BULK AT MOST 1048576: true; the input reads as it did. -/
def blocksVoidUptoRow : OpenClaim := { program := "ytffkjdmpeeagoaadoor", sum := "a9524d024d02bdc3b1d63e8739213d9572058b57fd4c28cfe7d4bde948013a7c", func := "ragpicker/ragpickerlaw11.BlocksVoid", spec := "blocksVoid", unfollowed := true, recurses := true, named := ["ragpicker/mems.rooms", "ragpicker/words.layout"], plainKeys := false, apart := false, laid := [("ragpicker/mems.rooms", laid_ragpicker_mems_rooms), ("ragpicker/words.layout", laid_ragpicker_words_layout)], narrowed := true }
def BlocksVoidUptoSaid : Prop := blocksVoidUptoRow.holds Tryd.pinned (OpenSpec.upto blocksVoidSpec)

/-- 'ragpickerlaw11.BlocksTable', WHERE WHAT IT READS IS OF BULK AT MOST 1048576: true; the input reads as it did. -/
def blocksTableUptoRow : OpenClaim := { program := "ytffkjdmpeeagoaadoor", sum := "a9524d024d02bdc3b1d63e8739213d9572058b57fd4c28cfe7d4bde948013a7c", func := "ragpicker/ragpickerlaw11.BlocksTable", spec := "blocksTable", unfollowed := true, recurses := true, named := ["ragpicker/mems.rooms", "ragpicker/words.layout"], plainKeys := false, apart := false, laid := [("ragpicker/mems.rooms", laid_ragpicker_mems_rooms), ("ragpicker/words.layout", laid_ragpicker_words_layout)], narrowed := true }
def BlocksTableUptoSaid : Prop := blocksTableUptoRow.holds Tryd.pinned (OpenSpec.upto blocksTableSpec)

/-- 'ragpickerlaw11.BlocksEmpty', WHERE WHAT IT READS IS OF BULK AT MOST 1048576: true; the input reads as it did. -/
def blocksEmptyUptoRow : OpenClaim := { program := "ytffkjdmpeeagoaadoor", sum := "a9524d024d02bdc3b1d63e8739213d9572058b57fd4c28cfe7d4bde948013a7c", func := "ragpicker/ragpickerlaw11.BlocksEmpty", spec := "blocksEmpty", unfollowed := true, recurses := true, named := ["ragpicker/mems.rooms", "ragpicker/words.layout"], plainKeys := false, apart := false, laid := [("ragpicker/mems.rooms", laid_ragpicker_mems_rooms), ("ragpicker/words.layout", laid_ragpicker_words_layout)], narrowed := true }
def BlocksEmptyUptoSaid : Prop := blocksEmptyUptoRow.holds Tryd.pinned (OpenSpec.upto blocksEmptySpec)

/-- 'ragpickerlaw11.BlocksMost', WHERE WHAT IT READS IS OF BULK AT MOST 1048576: true; the input reads as it did. -/
def blocksMostUptoRow : OpenClaim := { program := "ytffkjdmpeeagoaadoor", sum := "a9524d024d02bdc3b1d63e8739213d9572058b57fd4c28cfe7d4bde948013a7c", func := "ragpicker/ragpickerlaw11.BlocksMost", spec := "blocksMost", unfollowed := true, recurses := true, named := ["ragpicker/mems.rooms", "ragpicker/words.layout"], plainKeys := false, apart := false, laid := [("ragpicker/mems.rooms", laid_ragpicker_mems_rooms), ("ragpicker/words.layout", laid_ragpicker_words_layout)], narrowed := true }
def BlocksMostUptoSaid : Prop := blocksMostUptoRow.holds Tryd.pinned (OpenSpec.upto blocksMostSpec)

end Rows
end Go.Proofs.YtffkjdmpeeagoaaDoor
