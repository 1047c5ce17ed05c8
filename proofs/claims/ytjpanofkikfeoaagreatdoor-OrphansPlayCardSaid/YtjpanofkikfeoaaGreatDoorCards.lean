/-
  DERIVED. GIVEN WITH THE SEED: THE CARDS: each row of YtjpanofkikfeoaaGreatDoorRows.lean that lists a variable, with what it lists TIED to the program's text (the seventh form; the later family's looks); each row that meets fmt, with fmt's text TOLD by the authors' own Lean function (tested against real Go, not proved from fmt's source: count such statements apart). THE CARD IS WHAT COUNTS. Prove the row's statement (the work); the ties are given (YtjpanofkikfeoaaGreatDoorTie.lean); close each card by the builder's one call (the guide's Derived/Test/ToyasCard.lean, 'card_holds'). Laid BY PROGRAM, IN A SANDBOX (cutbox-door.mjs). By AI agents, Wed Nov 11 2026. No macro, syntax, notation, axiom, sorry.
-/
import Derived.Test.YtjpanofkikfeoaaGreatDoorRows
import GoSem.ClaimSeven
namespace Go.Proofs.YtjpanofkikfeoaaGreatDoor
namespace Rows

/-- THE TIED CARD OF 'ragpickerlaw12.OrphansPlay'. -/
def orphansPlayCard : Claim7 := { stood := { row := orphansPlayRow, standIns := [], harness := (true, "69fb117fa0720ac6fdfbce807e05c7dd92fcb0ae972540bb005a84d968e4331e"), looks := false }, kinds := [], alts := [], laidByText := true, laidKinds := [.data, .data], laidTests := true, laidLooks := .later }
def OrphansPlayCardSaid : Prop := Claim7.holds Tryz.pinned (.plain (OpenSpec.ofChange orphansPlaySpec)) orphansPlayCard

/-- THE SECOND FORM's CARD OF 'ragpickerlaw12.OrphansPlay'. -/
def orphansPlayUptoCard : Claim7 := { stood := { row := orphansPlayUptoRow, standIns := [], harness := (true, "69fb117fa0720ac6fdfbce807e05c7dd92fcb0ae972540bb005a84d968e4331e"), looks := false }, kinds := [], alts := [], laidByText := true, laidKinds := [.data, .data], laidTests := true, laidLooks := .later }
def OrphansPlayUptoCardSaid : Prop := Claim7.holds Tryz.pinned (.plain (OpenSpec.upto orphansPlaySpec)) orphansPlayUptoCard
end Rows
end Go.Proofs.YtjpanofkikfeoaaGreatDoor
