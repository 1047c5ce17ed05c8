/-
  NARROWER THAN 'FOR EVERY INPUT', by the rows' own cells (each row's printed sentence says how): SnapsPlay: laid · SnapsAny: laid · SnapsStill: laid · SnapsMoved: laid.
  DERIVED. THE GIVEN ROWS OF THIS SEAT. 4 by the template 'for every input the law returns true; each argument reads behind the call as it read before'; 0 by the template 'total and deterministic' (their statements: YtapcgikamldchaaDoorTotals.lean).
  GIVEN WITH THE SEED: the statements are not yours to turn. If you find one false, say at which input.
  Laid BY PROGRAM, IN A SANDBOX (cutbox-rows.mjs): the forced cells as the released guide's own fill.sh prints them over the translation dc5ed92a991f01db… (all of the seat's roots in one cut). By AI agents, Wed Nov 11 2026. No macro, syntax, notation, axiom, sorry.
-/
import Derived.Test.YtapcgikamldchaaDoorChecked
import GoSem.Claim
import GoSem.ClaimJoined
import GoSem.ClaimMapViews
import Derived.JoinedTies
import Derived.KernelRfl
namespace Go.Proofs.YtapcgikamldchaaDoor
/- THE CELL 'sum', in the pinned program and in every row, IS THE sha256 OF THE DUMP (.gsa) THAT YtapcgikamldchaaDoorProg.lean LOADS. Nothing in Lean hashes anything: it is a label: what it is worth is what the hold of that sum in a sandbox is worth. -/
noncomputable def Tryd.pinned : Pinned := { name := "ytapcgikamldchaadoor", sum := "dc5ed92a991f01db0b2a9a1230c856d8a53e8960a2ffceecbd29fa4db5ea117a", checked := Tryd.checked }
namespace Rows
def none {H : Type} : Left H := { results := [], args := [] }

/- WHAT THE LISTED PACKAGE-LEVEL VARIABLES READ AS WHEN THE CALL BEGINS. Each datum BY PROGRAM (the guide's laid-datum.mjs) off the statement by which the dump's own 'gosem.cut.vars' lays the variable. In a bare row this is a premise. The card (YtapcgikamldchaaDoorCards.lean) ties it to the program's text. -/
def laid_ragpicker_mems_rooms {H : Type} : DataW H := .agg [.agg [.lit (.int .i64 1), .lit (.int .i64 1)], .agg [.lit (.int .i64 1), .lit (.int .i64 1)], .agg [.lit (.int .i64 1), .lit (.int .i64 1)], .agg [.lit (.int .i64 1), .lit (.int .i64 1)], .agg [.lit (.int .i64 1), .lit (.int .i64 1)], .agg [.lit (.int .i64 1), .lit (.int .i64 1)], .agg [.lit (.int .i64 32), .lit (.int .i64 2)], .agg [.lit (.int .i64 4), .lit (.int .i64 1)], .agg [.lit (.int .i64 16), .lit (.int .i64 10)], .agg [.lit (.int .i64 256), .lit (.int .i64 8)], .agg [.lit (.int .i64 9), .lit (.int .i64 1)], .agg [.lit (.int .i64 1), .lit (.int .i64 2)]]

/-- 'ragpickerlaw14.SnapsPlay': WHATEVER THE INPUT: true; the input reads as it did. -/
def snapsPlaySpec : ChangeSpec := { name := "snapsPlay", fn := fun _ => fun
  | [d1, d2] => { results := [.lit (.bool true)], args := [d1, d2] }
  | _ => none }
def snapsPlayRow : OpenClaim := { program := "ytapcgikamldchaadoor", sum := "dc5ed92a991f01db0b2a9a1230c856d8a53e8960a2ffceecbd29fa4db5ea117a", func := "ragpicker/ragpickerlaw14.SnapsPlay", spec := "snapsPlay", unfollowed := true, recurses := true, named := ["ragpicker/mems.rooms"], plainKeys := false, apart := false, laid := [("ragpicker/mems.rooms", laid_ragpicker_mems_rooms)] }
def SnapsPlaySaid : Prop := snapsPlayRow.holds Tryd.pinned (OpenSpec.ofChange snapsPlaySpec)

/-- ITS FALSE NEIGHBOUR: 'it returns false'. Refute it at one input. -/
def snapsPlayWrong : ChangeSpec := { name := "snapsPlay", fn := fun _ => fun
  | [d1, d2] => { results := [.lit (.bool false)], args := [d1, d2] }
  | _ => none }
def SnapsPlayWrongFalsely : Prop := snapsPlayRow.holds Tryd.pinned (OpenSpec.ofChange snapsPlayWrong)

/-- 'ragpickerlaw14.SnapsAny': WHATEVER THE INPUT: true; the input reads as it did. -/
def snapsAnySpec : ChangeSpec := { name := "snapsAny", fn := fun _ => fun
  | [d1, d2] => { results := [.lit (.bool true)], args := [d1, d2] }
  | _ => none }
def snapsAnyRow : OpenClaim := { program := "ytapcgikamldchaadoor", sum := "dc5ed92a991f01db0b2a9a1230c856d8a53e8960a2ffceecbd29fa4db5ea117a", func := "ragpicker/ragpickerlaw14.SnapsAny", spec := "snapsAny", unfollowed := true, recurses := true, named := ["ragpicker/mems.rooms"], plainKeys := false, apart := false, laid := [("ragpicker/mems.rooms", laid_ragpicker_mems_rooms)] }
def SnapsAnySaid : Prop := snapsAnyRow.holds Tryd.pinned (OpenSpec.ofChange snapsAnySpec)

/-- ITS FALSE NEIGHBOUR: 'it returns false'. Refute it at one input. -/
def snapsAnyWrong : ChangeSpec := { name := "snapsAny", fn := fun _ => fun
  | [d1, d2] => { results := [.lit (.bool false)], args := [d1, d2] }
  | _ => none }
def SnapsAnyWrongFalsely : Prop := snapsAnyRow.holds Tryd.pinned (OpenSpec.ofChange snapsAnyWrong)

/-- 'ragpickerlaw14.SnapsStill': WHATEVER THE INPUT: true; the input reads as it did. -/
def snapsStillSpec : ChangeSpec := { name := "snapsStill", fn := fun _ => fun
  | [d1, d2] => { results := [.lit (.bool true)], args := [d1, d2] }
  | _ => none }
def snapsStillRow : OpenClaim := { program := "ytapcgikamldchaadoor", sum := "dc5ed92a991f01db0b2a9a1230c856d8a53e8960a2ffceecbd29fa4db5ea117a", func := "ragpicker/ragpickerlaw14.SnapsStill", spec := "snapsStill", unfollowed := true, recurses := true, named := ["ragpicker/mems.rooms"], plainKeys := false, apart := false, laid := [("ragpicker/mems.rooms", laid_ragpicker_mems_rooms)] }
def SnapsStillSaid : Prop := snapsStillRow.holds Tryd.pinned (OpenSpec.ofChange snapsStillSpec)

/-- ITS FALSE NEIGHBOUR: 'it returns false'. Refute it at one input. -/
def snapsStillWrong : ChangeSpec := { name := "snapsStill", fn := fun _ => fun
  | [d1, d2] => { results := [.lit (.bool false)], args := [d1, d2] }
  | _ => none }
def SnapsStillWrongFalsely : Prop := snapsStillRow.holds Tryd.pinned (OpenSpec.ofChange snapsStillWrong)

/-- 'ragpickerlaw14.SnapsMoved': WHATEVER THE INPUT: true; the input reads as it did. -/
def snapsMovedSpec : ChangeSpec := { name := "snapsMoved", fn := fun _ => fun
  | [d] => { results := [.lit (.bool true)], args := [d] }
  | _ => none }
def snapsMovedRow : OpenClaim := { program := "ytapcgikamldchaadoor", sum := "dc5ed92a991f01db0b2a9a1230c856d8a53e8960a2ffceecbd29fa4db5ea117a", func := "ragpicker/ragpickerlaw14.SnapsMoved", spec := "snapsMoved", unfollowed := true, recurses := true, named := ["ragpicker/mems.rooms"], plainKeys := false, apart := false, laid := [("ragpicker/mems.rooms", laid_ragpicker_mems_rooms)] }
def SnapsMovedSaid : Prop := snapsMovedRow.holds Tryd.pinned (OpenSpec.ofChange snapsMovedSpec)

/-- ITS FALSE NEIGHBOUR: 'it returns false'. Refute it at one input. -/
def snapsMovedWrong : ChangeSpec := { name := "snapsMoved", fn := fun _ => fun
  | [d] => { results := [.lit (.bool false)], args := [d] }
  | _ => none }
def SnapsMovedWrongFalsely : Prop := snapsMovedRow.holds Tryd.pinned (OpenSpec.ofChange snapsMovedWrong)

/- THE SECOND FORM. 'bulk': how many values and letters a reading holds, each counted each time it is reached (what is shared counts as often as it is met; a slice's spare places count too). A statement '..UptoSaid' is the law's where the arguments, and the package variables that the reading takes, are together of bulk at most 1048576: NARROWER than '..Said'. Prove '..Said' where nothing that the law and all that it calls make is longer than what came in: it says more and counts as full. Else prove '..UptoSaid'. A law counts once. -/
mutual
def uptoBulk {H : Type} : DataW H → Nat
  | .lit (.string bytes) => bytes.length + 1
  | .lit _ => 1
  | .nil => 1
  | .ptr d => uptoBulk d + 1
  | .slice elems spare => uptoBulkAll elems + uptoBulkAll spare + 1
  | .agg parts => uptoBulkAll parts + 1
  | .iface _ d => uptoBulk d + 1
  | .map entries => uptoBulkEntries entries + 1
  | .held _ => 1
def uptoBulkAll {H : Type} : List (DataW H) → Nat
  | [] => 0
  | d :: r => uptoBulk d + uptoBulkAll r
def uptoBulkEntries {H : Type} : List (Lit × DataW H) → Nat
  | [] => 0
  | x :: r => uptoBulkEntry x + uptoBulkEntries r
def uptoBulkEntry {H : Type} : Lit × DataW H → Nat
  | (.string bytes, d) => bytes.length + uptoBulk d + 1
  | (_, d) => uptoBulk d + 1
 end
def uptoSmall : (H : Type) → List (DataW H) → Bool := fun _ ds => decide (uptoBulkAll ds ≤ 1048576)
def OpenSpec.upto (s : _root_.Go.ChangeSpec) : _root_.Go.OpenSpec := { _root_.Go.OpenSpec.ofChange s with cond := some uptoSmall }

/-- 'ragpickerlaw14.SnapsPlay', WHERE WHAT IT READS IS OF BULK AT MOST 1048576: true; the input reads as it did. -/
def snapsPlayUptoRow : OpenClaim := { program := "ytapcgikamldchaadoor", sum := "dc5ed92a991f01db0b2a9a1230c856d8a53e8960a2ffceecbd29fa4db5ea117a", func := "ragpicker/ragpickerlaw14.SnapsPlay", spec := "snapsPlay", unfollowed := true, recurses := true, named := ["ragpicker/mems.rooms"], plainKeys := false, apart := false, laid := [("ragpicker/mems.rooms", laid_ragpicker_mems_rooms)], narrowed := true }
def SnapsPlayUptoSaid : Prop := snapsPlayUptoRow.holds Tryd.pinned (OpenSpec.upto snapsPlaySpec)

/-- 'ragpickerlaw14.SnapsAny', WHERE WHAT IT READS IS OF BULK AT MOST 1048576: true; the input reads as it did. -/
def snapsAnyUptoRow : OpenClaim := { program := "ytapcgikamldchaadoor", sum := "dc5ed92a991f01db0b2a9a1230c856d8a53e8960a2ffceecbd29fa4db5ea117a", func := "ragpicker/ragpickerlaw14.SnapsAny", spec := "snapsAny", unfollowed := true, recurses := true, named := ["ragpicker/mems.rooms"], plainKeys := false, apart := false, laid := [("ragpicker/mems.rooms", laid_ragpicker_mems_rooms)], narrowed := true }
def SnapsAnyUptoSaid : Prop := snapsAnyUptoRow.holds Tryd.pinned (OpenSpec.upto snapsAnySpec)

/-- 'ragpickerlaw14.SnapsStill', WHERE WHAT IT READS IS OF BULK AT MOST 1048576: true; the input reads as it did. -/
def snapsStillUptoRow : OpenClaim := { program := "ytapcgikamldchaadoor", sum := "dc5ed92a991f01db0b2a9a1230c856d8a53e8960a2ffceecbd29fa4db5ea117a", func := "ragpicker/ragpickerlaw14.SnapsStill", spec := "snapsStill", unfollowed := true, recurses := true, named := ["ragpicker/mems.rooms"], plainKeys := false, apart := false, laid := [("ragpicker/mems.rooms", laid_ragpicker_mems_rooms)], narrowed := true }
def SnapsStillUptoSaid : Prop := snapsStillUptoRow.holds Tryd.pinned (OpenSpec.upto snapsStillSpec)

/-- 'ragpickerlaw14.SnapsMoved', WHERE WHAT IT READS IS OF BULK AT MOST 1048576: true; the input reads as it did. -/
def snapsMovedUptoRow : OpenClaim := { program := "ytapcgikamldchaadoor", sum := "dc5ed92a991f01db0b2a9a1230c856d8a53e8960a2ffceecbd29fa4db5ea117a", func := "ragpicker/ragpickerlaw14.SnapsMoved", spec := "snapsMoved", unfollowed := true, recurses := true, named := ["ragpicker/mems.rooms"], plainKeys := false, apart := false, laid := [("ragpicker/mems.rooms", laid_ragpicker_mems_rooms)], narrowed := true }
def SnapsMovedUptoSaid : Prop := snapsMovedUptoRow.holds Tryd.pinned (OpenSpec.upto snapsMovedSpec)

end Rows
end Go.Proofs.YtapcgikamldchaaDoor
