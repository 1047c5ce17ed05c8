/-
  DERIVED. GIVEN WITH THE SEED: THE CARDS: each row of YtlcbinckbkdgdaaGreatDoorRows.lean that lists a variable, with what it lists TIED to the program's text (the seventh form; the later family's looks); each row that meets fmt, with fmt's text TOLD by the authors' own Lean function (tested against real Go, not proved from fmt's source: count such statements apart). THE CARD IS WHAT COUNTS. Prove the row's statement (the work); the ties are given (YtlcbinckbkdgdaaGreatDoorTie.lean); close each card by the builder's one call (the guide's Derived/Test/ToyasCard.lean, 'card_holds'). Laid BY PROGRAM, IN A SANDBOX (cutbox-door.mjs). By AI agents, Wed Nov 11 2026. No macro, syntax, notation, axiom, sorry.
-/
import Derived.Test.YtlcbinckbkdgdaaGreatDoorRows
import GoSem.ClaimSeven
namespace Go.Proofs.YtlcbinckbkdgdaaGreatDoor
namespace Rows

/-- THE TIED CARD OF 'ragpickerlaw08.AllocsPlay'. -/
def allocsPlayCard : Claim7 := { stood := { row := allocsPlayRow, standIns := [], harness := (true, "e3c00f40f9ae37572393a0165a023e1c6d9b0770165da2a65ffc8413c3207889"), looks := true }, kinds := [], alts := [], laidByText := true, laidKinds := [.data, .data], laidTests := true, laidLooks := .later }
def AllocsPlayCardSaid : Prop := Claim7.holds Tryz.pinned (.plain (OpenSpec.ofChange allocsPlaySpec)) allocsPlayCard

/-- THE SECOND FORM's CARD OF 'ragpickerlaw08.AllocsPlay'. -/
def allocsPlayUptoCard : Claim7 := { stood := { row := allocsPlayUptoRow, standIns := [], harness := (true, "e3c00f40f9ae37572393a0165a023e1c6d9b0770165da2a65ffc8413c3207889"), looks := true }, kinds := [], alts := [], laidByText := true, laidKinds := [.data, .data], laidTests := true, laidLooks := .later }
def AllocsPlayUptoCardSaid : Prop := Claim7.holds Tryz.pinned (.plain (OpenSpec.upto allocsPlaySpec)) allocsPlayUptoCard
end Rows
end Go.Proofs.YtlcbinckbkdgdaaGreatDoor
