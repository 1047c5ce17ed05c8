/-
  DERIVED. GIVEN WITH THE SEED: THE CARDS: each row of YtodfjnpnfalioaaGreatDoorRows.lean that lists a variable, with what it lists TIED to the program's text (the seventh form; the later family's looks); each row that meets fmt, with fmt's text TOLD by the authors' own Lean function (tested against real Go, not proved from fmt's source: count such statements apart). THE CARD IS WHAT COUNTS. Prove the row's statement (the work); the ties are given (YtodfjnpnfalioaaGreatDoorTie.lean); close each card by the builder's one call (the guide's Derived/Test/ToyasCard.lean, 'card_holds'). Laid BY PROGRAM, IN A SANDBOX (cutbox-door.mjs). By AI agents, Wed Nov 11 2026. No macro, syntax, notation, axiom, sorry.
-/
import Derived.Test.YtodfjnpnfalioaaGreatDoorRows
import GoSem.ClaimSeven
namespace Go.Proofs.YtodfjnpnfalioaaGreatDoor
namespace Rows

/-- THE TIED CARD OF 'ragpickerlaw10.TablesPlay'. -/
def tablesPlayCard : Claim7 := { stood := { row := tablesPlayRow, standIns := [], harness := (true, "883e849eba120b22a9fa327ccbb69843467231b050ab021600433232032469b7"), looks := false }, kinds := [], alts := [], laidByText := true, laidKinds := [.data, .data], laidTests := true, laidLooks := .later }
def TablesPlayCardSaid : Prop := Claim7.holds Tryz.pinned (.plain (OpenSpec.ofChange tablesPlaySpec)) tablesPlayCard

/-- THE SECOND FORM's CARD OF 'ragpickerlaw10.TablesPlay'. -/
def tablesPlayUptoCard : Claim7 := { stood := { row := tablesPlayUptoRow, standIns := [], harness := (true, "883e849eba120b22a9fa327ccbb69843467231b050ab021600433232032469b7"), looks := false }, kinds := [], alts := [], laidByText := true, laidKinds := [.data, .data], laidTests := true, laidLooks := .later }
def TablesPlayUptoCardSaid : Prop := Claim7.holds Tryz.pinned (.plain (OpenSpec.upto tablesPlaySpec)) tablesPlayUptoCard
end Rows
end Go.Proofs.YtodfjnpnfalioaaGreatDoor
