/-
  DERIVED. GIVEN WITH THE SEED: THE CARDS: each row of YtmjcbjcnmgleaaaGreatDoorRows.lean that lists a variable, with what it lists TIED to the program's text (the seventh form; the later family's looks); each row that meets fmt, with fmt's text TOLD by the authors' own Lean function (tested against real Go, not proved from fmt's source: count such statements apart). THE CARD IS WHAT COUNTS. Prove the row's statement (the work); the ties are given (YtmjcbjcnmgleaaaGreatDoorTie.lean); close each card by the builder's one call (the guide's Derived/Test/ToyasCard.lean, 'card_holds'). Laid BY PROGRAM, IN A SANDBOX (cutbox-door.mjs). By AI agents, Wed Nov 11 2026. No macro, syntax, notation, axiom, sorry.
-/
import Derived.Test.YtmjcbjcnmgleaaaGreatDoorRows
import GoSem.ClaimSeven
namespace Go.Proofs.YtmjcbjcnmgleaaaGreatDoor
namespace Rows

/-- THE TIED CARD OF 'ragpickerlaw09.GrowsPlay'. -/
def growsPlayCard : Claim7 := { stood := { row := growsPlayRow, standIns := [], harness := (true, "31bf3beb3a528d5d6f9ff789a2b01614a555bde46e3c3012b7ea1692cf86858f"), looks := true }, kinds := [], alts := [], laidByText := true, laidKinds := [.data, .data], laidTests := true, laidLooks := .later }
def GrowsPlayCardSaid : Prop := Claim7.holds Tryz.pinned (.plain (OpenSpec.ofChange growsPlaySpec)) growsPlayCard

/-- THE TIED CARD OF 'ragpickerlaw09.GrowsVoid'. -/
def growsVoidCard : Claim7 := { stood := { row := growsVoidRow, standIns := [], harness := (true, "31bf3beb3a528d5d6f9ff789a2b01614a555bde46e3c3012b7ea1692cf86858f"), looks := true }, kinds := [], alts := [], laidByText := true, laidKinds := [.data, .data], laidTests := true, laidLooks := .later }
def GrowsVoidCardSaid : Prop := Claim7.holds Tryz.pinned (.plain (OpenSpec.ofChange growsVoidSpec)) growsVoidCard

/-- THE TIED CARD OF 'ragpickerlaw09.GrowsWhole'. -/
def growsWholeCard : Claim7 := { stood := { row := growsWholeRow, standIns := [], harness := (true, "31bf3beb3a528d5d6f9ff789a2b01614a555bde46e3c3012b7ea1692cf86858f"), looks := true }, kinds := [], alts := [], laidByText := true, laidKinds := [.data, .data], laidTests := true, laidLooks := .later }
def GrowsWholeCardSaid : Prop := Claim7.holds Tryz.pinned (.plain (OpenSpec.ofChange growsWholeSpec)) growsWholeCard

/-- THE TIED CARD OF 'ragpickerlaw09.GrowsBack'. -/
def growsBackCard : Claim7 := { stood := { row := growsBackRow, standIns := [], harness := (true, "31bf3beb3a528d5d6f9ff789a2b01614a555bde46e3c3012b7ea1692cf86858f"), looks := true }, kinds := [], alts := [], laidByText := true, laidKinds := [.data, .data], laidTests := true, laidLooks := .later }
def GrowsBackCardSaid : Prop := Claim7.holds Tryz.pinned (.plain (OpenSpec.ofChange growsBackSpec)) growsBackCard

/-- THE SECOND FORM's CARD OF 'ragpickerlaw09.GrowsPlay'. -/
def growsPlayUptoCard : Claim7 := { stood := { row := growsPlayUptoRow, standIns := [], harness := (true, "31bf3beb3a528d5d6f9ff789a2b01614a555bde46e3c3012b7ea1692cf86858f"), looks := true }, kinds := [], alts := [], laidByText := true, laidKinds := [.data, .data], laidTests := true, laidLooks := .later }
def GrowsPlayUptoCardSaid : Prop := Claim7.holds Tryz.pinned (.plain (OpenSpec.upto growsPlaySpec)) growsPlayUptoCard

/-- THE SECOND FORM's CARD OF 'ragpickerlaw09.GrowsVoid'. -/
def growsVoidUptoCard : Claim7 := { stood := { row := growsVoidUptoRow, standIns := [], harness := (true, "31bf3beb3a528d5d6f9ff789a2b01614a555bde46e3c3012b7ea1692cf86858f"), looks := true }, kinds := [], alts := [], laidByText := true, laidKinds := [.data, .data], laidTests := true, laidLooks := .later }
def GrowsVoidUptoCardSaid : Prop := Claim7.holds Tryz.pinned (.plain (OpenSpec.upto growsVoidSpec)) growsVoidUptoCard

/-- THE SECOND FORM's CARD OF 'ragpickerlaw09.GrowsWhole'. -/
def growsWholeUptoCard : Claim7 := { stood := { row := growsWholeUptoRow, standIns := [], harness := (true, "31bf3beb3a528d5d6f9ff789a2b01614a555bde46e3c3012b7ea1692cf86858f"), looks := true }, kinds := [], alts := [], laidByText := true, laidKinds := [.data, .data], laidTests := true, laidLooks := .later }
def GrowsWholeUptoCardSaid : Prop := Claim7.holds Tryz.pinned (.plain (OpenSpec.upto growsWholeSpec)) growsWholeUptoCard

/-- THE SECOND FORM's CARD OF 'ragpickerlaw09.GrowsBack'. -/
def growsBackUptoCard : Claim7 := { stood := { row := growsBackUptoRow, standIns := [], harness := (true, "31bf3beb3a528d5d6f9ff789a2b01614a555bde46e3c3012b7ea1692cf86858f"), looks := true }, kinds := [], alts := [], laidByText := true, laidKinds := [.data, .data], laidTests := true, laidLooks := .later }
def GrowsBackUptoCardSaid : Prop := Claim7.holds Tryz.pinned (.plain (OpenSpec.upto growsBackSpec)) growsBackUptoCard
end Rows
end Go.Proofs.YtmjcbjcnmgleaaaGreatDoor
