/-
  DERIVED. GIVEN WITH THE SEED: THE CARDS: each row of YtjpanofkikfeoaaDoorRows.lean that lists a variable, with what it lists TIED to the program's text (the seventh form; the later family's looks); each row that meets fmt, with fmt's text TOLD by the authors' own Lean function (tested against real Go, not proved from fmt's source: count such statements apart). THE CARD IS WHAT COUNTS. Prove the row's statement (the work); the ties are given (YtjpanofkikfeoaaDoorTie.lean); close each card by the builder's one call (the guide's Derived/Test/ToyasCard.lean, 'card_holds'). Laid BY PROGRAM, IN A SANDBOX (cutbox-door.mjs). By AI agents, Wed Nov 11 2026. No macro, syntax, notation, axiom, sorry.
-/
import Derived.Test.YtjpanofkikfeoaaDoorRows
import GoSem.ClaimSeven
namespace Go.Proofs.YtjpanofkikfeoaaDoor
namespace Rows

/-- THE TIED CARD OF 'ragpickerlaw12.OrphansRound'. -/
def orphansRoundCard : Claim7 := { stood := { row := orphansRoundRow, standIns := [], harness := (true, "d8b3991033ea70167395d10b071f2be55fd4753780f57b22336066aaed9494eb"), looks := false }, kinds := [], alts := [], laidByText := true, laidKinds := [.data, .data], laidTests := true, laidLooks := .later }
def OrphansRoundCardSaid : Prop := Claim7.holds Tryd.pinned (.plain (OpenSpec.ofChange orphansRoundSpec)) orphansRoundCard

/-- THE TIED CARD OF 'ragpickerlaw12.OrphansOnce'. -/
def orphansOnceCard : Claim7 := { stood := { row := orphansOnceRow, standIns := [], harness := (true, "d8b3991033ea70167395d10b071f2be55fd4753780f57b22336066aaed9494eb"), looks := false }, kinds := [], alts := [], laidByText := true, laidKinds := [.data, .data], laidTests := true, laidLooks := .later }
def OrphansOnceCardSaid : Prop := Claim7.holds Tryd.pinned (.plain (OpenSpec.ofChange orphansOnceSpec)) orphansOnceCard

/-- THE TIED CARD OF 'ragpickerlaw12.OrphansOrder'. -/
def orphansOrderCard : Claim7 := { stood := { row := orphansOrderRow, standIns := [], harness := (true, "d8b3991033ea70167395d10b071f2be55fd4753780f57b22336066aaed9494eb"), looks := false }, kinds := [], alts := [], laidByText := true, laidKinds := [.data, .data], laidTests := true, laidLooks := .later }
def OrphansOrderCardSaid : Prop := Claim7.holds Tryd.pinned (.plain (OpenSpec.ofChange orphansOrderSpec)) orphansOrderCard

/-- THE TIED CARD OF 'ragpickerlaw12.OrphansVoid'. -/
def orphansVoidCard : Claim7 := { stood := { row := orphansVoidRow, standIns := [], harness := (true, "d8b3991033ea70167395d10b071f2be55fd4753780f57b22336066aaed9494eb"), looks := false }, kinds := [], alts := [], laidByText := true, laidKinds := [.data, .data], laidTests := true, laidLooks := .later }
def OrphansVoidCardSaid : Prop := Claim7.holds Tryd.pinned (.plain (OpenSpec.ofChange orphansVoidSpec)) orphansVoidCard

/-- THE SECOND FORM's CARD OF 'ragpickerlaw12.OrphansRound'. -/
def orphansRoundUptoCard : Claim7 := { stood := { row := orphansRoundUptoRow, standIns := [], harness := (true, "d8b3991033ea70167395d10b071f2be55fd4753780f57b22336066aaed9494eb"), looks := false }, kinds := [], alts := [], laidByText := true, laidKinds := [.data, .data], laidTests := true, laidLooks := .later }
def OrphansRoundUptoCardSaid : Prop := Claim7.holds Tryd.pinned (.plain (OpenSpec.upto orphansRoundSpec)) orphansRoundUptoCard

/-- THE SECOND FORM's CARD OF 'ragpickerlaw12.OrphansOnce'. -/
def orphansOnceUptoCard : Claim7 := { stood := { row := orphansOnceUptoRow, standIns := [], harness := (true, "d8b3991033ea70167395d10b071f2be55fd4753780f57b22336066aaed9494eb"), looks := false }, kinds := [], alts := [], laidByText := true, laidKinds := [.data, .data], laidTests := true, laidLooks := .later }
def OrphansOnceUptoCardSaid : Prop := Claim7.holds Tryd.pinned (.plain (OpenSpec.upto orphansOnceSpec)) orphansOnceUptoCard

/-- THE SECOND FORM's CARD OF 'ragpickerlaw12.OrphansOrder'. -/
def orphansOrderUptoCard : Claim7 := { stood := { row := orphansOrderUptoRow, standIns := [], harness := (true, "d8b3991033ea70167395d10b071f2be55fd4753780f57b22336066aaed9494eb"), looks := false }, kinds := [], alts := [], laidByText := true, laidKinds := [.data, .data], laidTests := true, laidLooks := .later }
def OrphansOrderUptoCardSaid : Prop := Claim7.holds Tryd.pinned (.plain (OpenSpec.upto orphansOrderSpec)) orphansOrderUptoCard

/-- THE SECOND FORM's CARD OF 'ragpickerlaw12.OrphansVoid'. -/
def orphansVoidUptoCard : Claim7 := { stood := { row := orphansVoidUptoRow, standIns := [], harness := (true, "d8b3991033ea70167395d10b071f2be55fd4753780f57b22336066aaed9494eb"), looks := false }, kinds := [], alts := [], laidByText := true, laidKinds := [.data, .data], laidTests := true, laidLooks := .later }
def OrphansVoidUptoCardSaid : Prop := Claim7.holds Tryd.pinned (.plain (OpenSpec.upto orphansVoidSpec)) orphansVoidUptoCard
end Rows
end Go.Proofs.YtjpanofkikfeoaaDoor
