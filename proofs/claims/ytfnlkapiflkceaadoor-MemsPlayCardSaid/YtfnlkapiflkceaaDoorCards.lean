/-
  DERIVED. GIVEN WITH THE SEED: THE CARDS: each row of YtfnlkapiflkceaaDoorRows.lean that lists a variable, with what it lists TIED to the program's text (the seventh form; the later family's looks); each row that meets fmt, with fmt's text TOLD by the authors' own Lean function (tested against real Go, not proved from fmt's source: count such statements apart). THE CARD IS WHAT COUNTS. Prove the row's statement (the work); the ties are given (YtfnlkapiflkceaaDoorTie.lean); close each card by the builder's one call (the guide's Derived/Test/ToyasCard.lean, 'card_holds'). Laid BY PROGRAM, IN A SANDBOX (cutbox-door.mjs). By AI agents, Wed Nov 11 2026. No macro, syntax, notation, axiom, sorry.
-/
import Derived.Test.YtfnlkapiflkceaaDoorRows
import GoSem.ClaimSeven
namespace Go.Proofs.YtfnlkapiflkceaaDoor
namespace Rows

/-- THE TIED CARD OF 'ragpickerlaw02.MemsPlay'. -/
def memsPlayCard : Claim7 := { stood := { row := memsPlayRow, standIns := [], harness := (true, "e66a46af7ff2e8602659dbbc574fabab9fbbeae76e02cc4863e390954dffea9a"), looks := false }, kinds := [], alts := [], laidByText := true, laidKinds := [.data], laidTests := true, laidLooks := .later }
def MemsPlayCardSaid : Prop := Claim7.holds Tryd.pinned (.plain (OpenSpec.ofChange memsPlaySpec)) memsPlayCard

/-- THE TIED CARD OF 'ragpickerlaw02.MemsVoid'. -/
def memsVoidCard : Claim7 := { stood := { row := memsVoidRow, standIns := [], harness := (true, "e66a46af7ff2e8602659dbbc574fabab9fbbeae76e02cc4863e390954dffea9a"), looks := false }, kinds := [], alts := [], laidByText := true, laidKinds := [.data], laidTests := true, laidLooks := .later }
def MemsVoidCardSaid : Prop := Claim7.holds Tryd.pinned (.plain (OpenSpec.ofChange memsVoidSpec)) memsVoidCard

/-- THE TIED CARD OF 'ragpickerlaw02.MemsOne'. -/
def memsOneCard : Claim7 := { stood := { row := memsOneRow, standIns := [], harness := (true, "e66a46af7ff2e8602659dbbc574fabab9fbbeae76e02cc4863e390954dffea9a"), looks := false }, kinds := [], alts := [], laidByText := true, laidKinds := [.data], laidTests := true, laidLooks := .later }
def MemsOneCardSaid : Prop := Claim7.holds Tryd.pinned (.plain (OpenSpec.ofChange memsOneSpec)) memsOneCard

/-- THE SECOND FORM's CARD OF 'ragpickerlaw02.MemsPlay'. -/
def memsPlayUptoCard : Claim7 := { stood := { row := memsPlayUptoRow, standIns := [], harness := (true, "e66a46af7ff2e8602659dbbc574fabab9fbbeae76e02cc4863e390954dffea9a"), looks := false }, kinds := [], alts := [], laidByText := true, laidKinds := [.data], laidTests := true, laidLooks := .later }
def MemsPlayUptoCardSaid : Prop := Claim7.holds Tryd.pinned (.plain (OpenSpec.upto memsPlaySpec)) memsPlayUptoCard

/-- THE SECOND FORM's CARD OF 'ragpickerlaw02.MemsVoid'. -/
def memsVoidUptoCard : Claim7 := { stood := { row := memsVoidUptoRow, standIns := [], harness := (true, "e66a46af7ff2e8602659dbbc574fabab9fbbeae76e02cc4863e390954dffea9a"), looks := false }, kinds := [], alts := [], laidByText := true, laidKinds := [.data], laidTests := true, laidLooks := .later }
def MemsVoidUptoCardSaid : Prop := Claim7.holds Tryd.pinned (.plain (OpenSpec.upto memsVoidSpec)) memsVoidUptoCard

/-- THE SECOND FORM's CARD OF 'ragpickerlaw02.MemsOne'. -/
def memsOneUptoCard : Claim7 := { stood := { row := memsOneUptoRow, standIns := [], harness := (true, "e66a46af7ff2e8602659dbbc574fabab9fbbeae76e02cc4863e390954dffea9a"), looks := false }, kinds := [], alts := [], laidByText := true, laidKinds := [.data], laidTests := true, laidLooks := .later }
def MemsOneUptoCardSaid : Prop := Claim7.holds Tryd.pinned (.plain (OpenSpec.upto memsOneSpec)) memsOneUptoCard
end Rows
end Go.Proofs.YtfnlkapiflkceaaDoor
