/-
  DERIVED. GIVEN WITH THE SEED: THE CARDS: each row of YtelehpegnjbcaaaDoorRows.lean that lists a variable, with what it lists TIED to the program's text (the seventh form; the later family's looks); each row that meets fmt, with fmt's text TOLD by the authors' own Lean function (tested against real Go, not proved from fmt's source: count such statements apart). THE CARD IS WHAT COUNTS. Prove the row's statement (the work); the ties are given (YtelehpegnjbcaaaDoorTie.lean); close each card by the builder's one call (the guide's Derived/Test/ToyasCard.lean, 'card_holds'). Laid BY PROGRAM, IN A SANDBOX (cutbox-door.mjs). By AI agents, Wed Nov 11 2026. No macro, syntax, notation, axiom, sorry.
-/
import Derived.Test.YtelehpegnjbcaaaDoorRows
import GoSem.ClaimSeven
namespace Go.Proofs.YtelehpegnjbcaaaDoor
namespace Rows

/-- THE TIED CARD OF 'ragpickerlaw06.SegsOf'. -/
def segsOfCard : Claim7 := { stood := { row := segsOfRow, standIns := [], harness := (true, "ec9cd4f3cdd80c17ef48e08dd655e302e41f103adceca96126322acc9cbe31b7"), looks := false }, kinds := [], alts := [], laidByText := true, laidKinds := [.data, .data], laidTests := true, laidLooks := .later }
def SegsOfCardSaid : Prop := Claim7.holds Tryd.pinned (.plain (OpenSpec.ofChange segsOfSpec)) segsOfCard

/-- THE TIED CARD OF 'ragpickerlaw06.SegsTurns'. -/
def segsTurnsCard : Claim7 := { stood := { row := segsTurnsRow, standIns := [], harness := (true, "ec9cd4f3cdd80c17ef48e08dd655e302e41f103adceca96126322acc9cbe31b7"), looks := false }, kinds := [], alts := [], laidByText := true, laidKinds := [.data, .data], laidTests := true, laidLooks := .later }
def SegsTurnsCardSaid : Prop := Claim7.holds Tryd.pinned (.plain (OpenSpec.ofChange segsTurnsSpec)) segsTurnsCard

/-- THE TIED CARD OF 'ragpickerlaw06.SegsCount'. -/
def segsCountCard : Claim7 := { stood := { row := segsCountRow, standIns := [], harness := (true, "ec9cd4f3cdd80c17ef48e08dd655e302e41f103adceca96126322acc9cbe31b7"), looks := false }, kinds := [], alts := [], laidByText := true, laidKinds := [.data, .data], laidTests := true, laidLooks := .later }
def SegsCountCardSaid : Prop := Claim7.holds Tryd.pinned (.plain (OpenSpec.ofChange segsCountSpec)) segsCountCard

/-- THE TIED CARD OF 'ragpickerlaw06.SegsAll'. -/
def segsAllCard : Claim7 := { stood := { row := segsAllRow, standIns := [], harness := (true, "ec9cd4f3cdd80c17ef48e08dd655e302e41f103adceca96126322acc9cbe31b7"), looks := false }, kinds := [], alts := [], laidByText := true, laidKinds := [.data, .data], laidTests := true, laidLooks := .later }
def SegsAllCardSaid : Prop := Claim7.holds Tryd.pinned (.plain (OpenSpec.ofChange segsAllSpec)) segsAllCard

/-- THE TIED CARD OF 'ragpickerlaw06.SegsLife'. -/
def segsLifeCard : Claim7 := { stood := { row := segsLifeRow, standIns := [], harness := (true, "ec9cd4f3cdd80c17ef48e08dd655e302e41f103adceca96126322acc9cbe31b7"), looks := false }, kinds := [], alts := [], laidByText := true, laidKinds := [.data, .data], laidTests := true, laidLooks := .later }
def SegsLifeCardSaid : Prop := Claim7.holds Tryd.pinned (.plain (OpenSpec.ofChange segsLifeSpec)) segsLifeCard

/-- THE TIED CARD OF 'ragpickerlaw06.SegsSum'. -/
def segsSumCard : Claim7 := { stood := { row := segsSumRow, standIns := [], harness := (true, "ec9cd4f3cdd80c17ef48e08dd655e302e41f103adceca96126322acc9cbe31b7"), looks := false }, kinds := [], alts := [], laidByText := true, laidKinds := [.data, .data], laidTests := true, laidLooks := .later }
def SegsSumCardSaid : Prop := Claim7.holds Tryd.pinned (.plain (OpenSpec.ofChange segsSumSpec)) segsSumCard

/-- THE SECOND FORM's CARD OF 'ragpickerlaw06.SegsOf'. -/
def segsOfUptoCard : Claim7 := { stood := { row := segsOfUptoRow, standIns := [], harness := (true, "ec9cd4f3cdd80c17ef48e08dd655e302e41f103adceca96126322acc9cbe31b7"), looks := false }, kinds := [], alts := [], laidByText := true, laidKinds := [.data, .data], laidTests := true, laidLooks := .later }
def SegsOfUptoCardSaid : Prop := Claim7.holds Tryd.pinned (.plain (OpenSpec.upto segsOfSpec)) segsOfUptoCard

/-- THE SECOND FORM's CARD OF 'ragpickerlaw06.SegsTurns'. -/
def segsTurnsUptoCard : Claim7 := { stood := { row := segsTurnsUptoRow, standIns := [], harness := (true, "ec9cd4f3cdd80c17ef48e08dd655e302e41f103adceca96126322acc9cbe31b7"), looks := false }, kinds := [], alts := [], laidByText := true, laidKinds := [.data, .data], laidTests := true, laidLooks := .later }
def SegsTurnsUptoCardSaid : Prop := Claim7.holds Tryd.pinned (.plain (OpenSpec.upto segsTurnsSpec)) segsTurnsUptoCard

/-- THE SECOND FORM's CARD OF 'ragpickerlaw06.SegsCount'. -/
def segsCountUptoCard : Claim7 := { stood := { row := segsCountUptoRow, standIns := [], harness := (true, "ec9cd4f3cdd80c17ef48e08dd655e302e41f103adceca96126322acc9cbe31b7"), looks := false }, kinds := [], alts := [], laidByText := true, laidKinds := [.data, .data], laidTests := true, laidLooks := .later }
def SegsCountUptoCardSaid : Prop := Claim7.holds Tryd.pinned (.plain (OpenSpec.upto segsCountSpec)) segsCountUptoCard

/-- THE SECOND FORM's CARD OF 'ragpickerlaw06.SegsAll'. -/
def segsAllUptoCard : Claim7 := { stood := { row := segsAllUptoRow, standIns := [], harness := (true, "ec9cd4f3cdd80c17ef48e08dd655e302e41f103adceca96126322acc9cbe31b7"), looks := false }, kinds := [], alts := [], laidByText := true, laidKinds := [.data, .data], laidTests := true, laidLooks := .later }
def SegsAllUptoCardSaid : Prop := Claim7.holds Tryd.pinned (.plain (OpenSpec.upto segsAllSpec)) segsAllUptoCard

/-- THE SECOND FORM's CARD OF 'ragpickerlaw06.SegsLife'. -/
def segsLifeUptoCard : Claim7 := { stood := { row := segsLifeUptoRow, standIns := [], harness := (true, "ec9cd4f3cdd80c17ef48e08dd655e302e41f103adceca96126322acc9cbe31b7"), looks := false }, kinds := [], alts := [], laidByText := true, laidKinds := [.data, .data], laidTests := true, laidLooks := .later }
def SegsLifeUptoCardSaid : Prop := Claim7.holds Tryd.pinned (.plain (OpenSpec.upto segsLifeSpec)) segsLifeUptoCard

/-- THE SECOND FORM's CARD OF 'ragpickerlaw06.SegsSum'. -/
def segsSumUptoCard : Claim7 := { stood := { row := segsSumUptoRow, standIns := [], harness := (true, "ec9cd4f3cdd80c17ef48e08dd655e302e41f103adceca96126322acc9cbe31b7"), looks := false }, kinds := [], alts := [], laidByText := true, laidKinds := [.data, .data], laidTests := true, laidLooks := .later }
def SegsSumUptoCardSaid : Prop := Claim7.holds Tryd.pinned (.plain (OpenSpec.upto segsSumSpec)) segsSumUptoCard
end Rows
end Go.Proofs.YtelehpegnjbcaaaDoor
