/-
  DERIVED. GIVEN WITH THE SEED: THE CARDS: each row of YtlcbinckbkdgdaaDoorRows.lean that lists a variable, with what it lists TIED to the program's text (the seventh form; the later family's looks); each row that meets fmt, with fmt's text TOLD by the authors' own Lean function (tested against real Go, not proved from fmt's source: count such statements apart). THE CARD IS WHAT COUNTS. Prove the row's statement (the work); the ties are given (YtlcbinckbkdgdaaDoorTie.lean); close each card by the builder's one call (the guide's Derived/Test/ToyasCard.lean, 'card_holds'). Laid BY PROGRAM, IN A SANDBOX (cutbox-door.mjs). By AI agents, Wed Nov 11 2026. No macro, syntax, notation, axiom, sorry.
-/
import Derived.Test.YtlcbinckbkdgdaaDoorRows
import GoSem.ClaimSeven
namespace Go.Proofs.YtlcbinckbkdgdaaDoor
namespace Rows

/-- THE TIED CARD OF 'ragpickerlaw08.AllocsVoid'. -/
def allocsVoidCard : Claim7 := { stood := { row := allocsVoidRow, standIns := [], harness := (true, "e4a79c084fdee10e01e5a1dfb799d4e89ca6736c9e3c5abfd31c10b0ff2b2734"), looks := true }, kinds := [], alts := [], laidByText := true, laidKinds := [.data, .data], laidTests := true, laidLooks := .later }
def AllocsVoidCardSaid : Prop := Claim7.holds Tryd.pinned (.plain (OpenSpec.ofChange allocsVoidSpec)) allocsVoidCard

/-- THE TIED CARD OF 'ragpickerlaw08.AllocsOnce'. -/
def allocsOnceCard : Claim7 := { stood := { row := allocsOnceRow, standIns := [], harness := (true, "e4a79c084fdee10e01e5a1dfb799d4e89ca6736c9e3c5abfd31c10b0ff2b2734"), looks := true }, kinds := [], alts := [], laidByText := true, laidKinds := [.data, .data], laidTests := true, laidLooks := .later }
def AllocsOnceCardSaid : Prop := Claim7.holds Tryd.pinned (.plain (OpenSpec.ofChange allocsOnceSpec)) allocsOnceCard

/-- THE TIED CARD OF 'ragpickerlaw08.AllocsRound'. -/
def allocsRoundCard : Claim7 := { stood := { row := allocsRoundRow, standIns := [], harness := (true, "e4a79c084fdee10e01e5a1dfb799d4e89ca6736c9e3c5abfd31c10b0ff2b2734"), looks := true }, kinds := [], alts := [], laidByText := true, laidKinds := [.data, .data], laidTests := true, laidLooks := .later }
def AllocsRoundCardSaid : Prop := Claim7.holds Tryd.pinned (.plain (OpenSpec.ofChange allocsRoundSpec)) allocsRoundCard

/-- THE SECOND FORM's CARD OF 'ragpickerlaw08.AllocsVoid'. -/
def allocsVoidUptoCard : Claim7 := { stood := { row := allocsVoidUptoRow, standIns := [], harness := (true, "e4a79c084fdee10e01e5a1dfb799d4e89ca6736c9e3c5abfd31c10b0ff2b2734"), looks := true }, kinds := [], alts := [], laidByText := true, laidKinds := [.data, .data], laidTests := true, laidLooks := .later }
def AllocsVoidUptoCardSaid : Prop := Claim7.holds Tryd.pinned (.plain (OpenSpec.upto allocsVoidSpec)) allocsVoidUptoCard

/-- THE SECOND FORM's CARD OF 'ragpickerlaw08.AllocsOnce'. -/
def allocsOnceUptoCard : Claim7 := { stood := { row := allocsOnceUptoRow, standIns := [], harness := (true, "e4a79c084fdee10e01e5a1dfb799d4e89ca6736c9e3c5abfd31c10b0ff2b2734"), looks := true }, kinds := [], alts := [], laidByText := true, laidKinds := [.data, .data], laidTests := true, laidLooks := .later }
def AllocsOnceUptoCardSaid : Prop := Claim7.holds Tryd.pinned (.plain (OpenSpec.upto allocsOnceSpec)) allocsOnceUptoCard

/-- THE SECOND FORM's CARD OF 'ragpickerlaw08.AllocsRound'. -/
def allocsRoundUptoCard : Claim7 := { stood := { row := allocsRoundUptoRow, standIns := [], harness := (true, "e4a79c084fdee10e01e5a1dfb799d4e89ca6736c9e3c5abfd31c10b0ff2b2734"), looks := true }, kinds := [], alts := [], laidByText := true, laidKinds := [.data, .data], laidTests := true, laidLooks := .later }
def AllocsRoundUptoCardSaid : Prop := Claim7.holds Tryd.pinned (.plain (OpenSpec.upto allocsRoundSpec)) allocsRoundUptoCard
end Rows
end Go.Proofs.YtlcbinckbkdgdaaDoor
