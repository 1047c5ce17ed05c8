/-
  DERIVED. GIVEN WITH THE SEED: THE CARDS: each row of YtffkjdmpeeagoaaDoorRows.lean that lists a variable, with what it lists TIED to the program's text (the seventh form; the later family's looks); each row that meets fmt, with fmt's text TOLD by the authors' own Lean function (tested against real Go, not proved from fmt's source: count such statements apart). THE CARD IS WHAT COUNTS. Prove the row's statement (the work); the ties are given (YtffkjdmpeeagoaaDoorTie.lean); close each card by the builder's one call (the guide's Derived/Test/ToyasCard.lean, 'card_holds'). Laid BY PROGRAM, IN A SANDBOX (cutbox-door.mjs). By AI agents, Wed Nov 11 2026. No macro, syntax, notation, axiom, sorry.
-/
import Derived.Test.YtffkjdmpeeagoaaDoorRows
import GoSem.ClaimSeven
namespace Go.Proofs.YtffkjdmpeeagoaaDoor
namespace Rows

/-- THE TIED CARD OF 'ragpickerlaw11.BlocksPlay'. -/
def blocksPlayCard : Claim7 := { stood := { row := blocksPlayRow, standIns := [], harness := (true, "715b3a1cec428a3f7c7efb0c0b0a5583d73c3a3326f55215aa9e9a5ddfaee932"), looks := false }, kinds := [], alts := [], laidByText := true, laidKinds := [.data, .data], laidTests := true, laidLooks := .later }
def BlocksPlayCardSaid : Prop := Claim7.holds Tryd.pinned (.plain (OpenSpec.ofChange blocksPlaySpec)) blocksPlayCard

/-- THE TIED CARD OF 'ragpickerlaw11.BlocksVoid'. -/
def blocksVoidCard : Claim7 := { stood := { row := blocksVoidRow, standIns := [], harness := (true, "715b3a1cec428a3f7c7efb0c0b0a5583d73c3a3326f55215aa9e9a5ddfaee932"), looks := false }, kinds := [], alts := [], laidByText := true, laidKinds := [.data, .data], laidTests := true, laidLooks := .later }
def BlocksVoidCardSaid : Prop := Claim7.holds Tryd.pinned (.plain (OpenSpec.ofChange blocksVoidSpec)) blocksVoidCard

/-- THE TIED CARD OF 'ragpickerlaw11.BlocksTable'. -/
def blocksTableCard : Claim7 := { stood := { row := blocksTableRow, standIns := [], harness := (true, "715b3a1cec428a3f7c7efb0c0b0a5583d73c3a3326f55215aa9e9a5ddfaee932"), looks := false }, kinds := [], alts := [], laidByText := true, laidKinds := [.data, .data], laidTests := true, laidLooks := .later }
def BlocksTableCardSaid : Prop := Claim7.holds Tryd.pinned (.plain (OpenSpec.ofChange blocksTableSpec)) blocksTableCard

/-- THE TIED CARD OF 'ragpickerlaw11.BlocksEmpty'. -/
def blocksEmptyCard : Claim7 := { stood := { row := blocksEmptyRow, standIns := [], harness := (true, "715b3a1cec428a3f7c7efb0c0b0a5583d73c3a3326f55215aa9e9a5ddfaee932"), looks := false }, kinds := [], alts := [], laidByText := true, laidKinds := [.data, .data], laidTests := true, laidLooks := .later }
def BlocksEmptyCardSaid : Prop := Claim7.holds Tryd.pinned (.plain (OpenSpec.ofChange blocksEmptySpec)) blocksEmptyCard

/-- THE TIED CARD OF 'ragpickerlaw11.BlocksMost'. -/
def blocksMostCard : Claim7 := { stood := { row := blocksMostRow, standIns := [], harness := (true, "715b3a1cec428a3f7c7efb0c0b0a5583d73c3a3326f55215aa9e9a5ddfaee932"), looks := false }, kinds := [], alts := [], laidByText := true, laidKinds := [.data, .data], laidTests := true, laidLooks := .later }
def BlocksMostCardSaid : Prop := Claim7.holds Tryd.pinned (.plain (OpenSpec.ofChange blocksMostSpec)) blocksMostCard

/-- THE SECOND FORM's CARD OF 'ragpickerlaw11.BlocksPlay'. -/
def blocksPlayUptoCard : Claim7 := { stood := { row := blocksPlayUptoRow, standIns := [], harness := (true, "715b3a1cec428a3f7c7efb0c0b0a5583d73c3a3326f55215aa9e9a5ddfaee932"), looks := false }, kinds := [], alts := [], laidByText := true, laidKinds := [.data, .data], laidTests := true, laidLooks := .later }
def BlocksPlayUptoCardSaid : Prop := Claim7.holds Tryd.pinned (.plain (OpenSpec.upto blocksPlaySpec)) blocksPlayUptoCard

/-- THE SECOND FORM's CARD OF 'ragpickerlaw11.BlocksVoid'. -/
def blocksVoidUptoCard : Claim7 := { stood := { row := blocksVoidUptoRow, standIns := [], harness := (true, "715b3a1cec428a3f7c7efb0c0b0a5583d73c3a3326f55215aa9e9a5ddfaee932"), looks := false }, kinds := [], alts := [], laidByText := true, laidKinds := [.data, .data], laidTests := true, laidLooks := .later }
def BlocksVoidUptoCardSaid : Prop := Claim7.holds Tryd.pinned (.plain (OpenSpec.upto blocksVoidSpec)) blocksVoidUptoCard

/-- THE SECOND FORM's CARD OF 'ragpickerlaw11.BlocksTable'. -/
def blocksTableUptoCard : Claim7 := { stood := { row := blocksTableUptoRow, standIns := [], harness := (true, "715b3a1cec428a3f7c7efb0c0b0a5583d73c3a3326f55215aa9e9a5ddfaee932"), looks := false }, kinds := [], alts := [], laidByText := true, laidKinds := [.data, .data], laidTests := true, laidLooks := .later }
def BlocksTableUptoCardSaid : Prop := Claim7.holds Tryd.pinned (.plain (OpenSpec.upto blocksTableSpec)) blocksTableUptoCard

/-- THE SECOND FORM's CARD OF 'ragpickerlaw11.BlocksEmpty'. -/
def blocksEmptyUptoCard : Claim7 := { stood := { row := blocksEmptyUptoRow, standIns := [], harness := (true, "715b3a1cec428a3f7c7efb0c0b0a5583d73c3a3326f55215aa9e9a5ddfaee932"), looks := false }, kinds := [], alts := [], laidByText := true, laidKinds := [.data, .data], laidTests := true, laidLooks := .later }
def BlocksEmptyUptoCardSaid : Prop := Claim7.holds Tryd.pinned (.plain (OpenSpec.upto blocksEmptySpec)) blocksEmptyUptoCard

/-- THE SECOND FORM's CARD OF 'ragpickerlaw11.BlocksMost'. -/
def blocksMostUptoCard : Claim7 := { stood := { row := blocksMostUptoRow, standIns := [], harness := (true, "715b3a1cec428a3f7c7efb0c0b0a5583d73c3a3326f55215aa9e9a5ddfaee932"), looks := false }, kinds := [], alts := [], laidByText := true, laidKinds := [.data, .data], laidTests := true, laidLooks := .later }
def BlocksMostUptoCardSaid : Prop := Claim7.holds Tryd.pinned (.plain (OpenSpec.upto blocksMostSpec)) blocksMostUptoCard
end Rows
end Go.Proofs.YtffkjdmpeeagoaaDoor
