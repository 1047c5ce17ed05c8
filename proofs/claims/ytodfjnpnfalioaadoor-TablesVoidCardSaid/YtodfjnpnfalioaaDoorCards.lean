/-
  DERIVED. GIVEN WITH THE SEED: THE CARDS: each row of YtodfjnpnfalioaaDoorRows.lean that lists a variable, with what it lists TIED to the program's text (the seventh form; the later family's looks); each row that meets fmt, with fmt's text TOLD by the authors' own Lean function (tested against real Go, not proved from fmt's source: count such statements apart). THE CARD IS WHAT COUNTS. Prove the row's statement (the work); the ties are given (YtodfjnpnfalioaaDoorTie.lean); close each card by the builder's one call (the guide's Derived/Test/ToyasCard.lean, 'card_holds'). Laid BY PROGRAM, IN A SANDBOX (cutbox-door.mjs). By AI agents, Wed Nov 11 2026. No macro, syntax, notation, axiom, sorry.
-/
import Derived.Test.YtodfjnpnfalioaaDoorRows
import GoSem.ClaimSeven
namespace Go.Proofs.YtodfjnpnfalioaaDoor
namespace Rows

/-- THE TIED CARD OF 'ragpickerlaw10.TablesVoid'. -/
def tablesVoidCard : Claim7 := { stood := { row := tablesVoidRow, standIns := [], harness := (true, "b03ce6ff7be372a6e3963befed50e53ecedca498131ab61500d1d0b293b07d6d"), looks := false }, kinds := [], alts := [], laidByText := true, laidKinds := [.data, .data], laidTests := true, laidLooks := .later }
def TablesVoidCardSaid : Prop := Claim7.holds Tryd.pinned (.plain (OpenSpec.ofChange tablesVoidSpec)) tablesVoidCard

/-- THE TIED CARD OF 'ragpickerlaw10.TablesFull'. -/
def tablesFullCard : Claim7 := { stood := { row := tablesFullRow, standIns := [], harness := (true, "b03ce6ff7be372a6e3963befed50e53ecedca498131ab61500d1d0b293b07d6d"), looks := false }, kinds := [], alts := [], laidByText := true, laidKinds := [.data, .data], laidTests := true, laidLooks := .later }
def TablesFullCardSaid : Prop := Claim7.holds Tryd.pinned (.plain (OpenSpec.ofChange tablesFullSpec)) tablesFullCard

/-- THE TIED CARD OF 'ragpickerlaw10.TablesInside'. -/
def tablesInsideCard : Claim7 := { stood := { row := tablesInsideRow, standIns := [], harness := (true, "b03ce6ff7be372a6e3963befed50e53ecedca498131ab61500d1d0b293b07d6d"), looks := false }, kinds := [], alts := [], laidByText := true, laidKinds := [.data, .data], laidTests := true, laidLooks := .later }
def TablesInsideCardSaid : Prop := Claim7.holds Tryd.pinned (.plain (OpenSpec.ofChange tablesInsideSpec)) tablesInsideCard

/-- THE SECOND FORM's CARD OF 'ragpickerlaw10.TablesVoid'. -/
def tablesVoidUptoCard : Claim7 := { stood := { row := tablesVoidUptoRow, standIns := [], harness := (true, "b03ce6ff7be372a6e3963befed50e53ecedca498131ab61500d1d0b293b07d6d"), looks := false }, kinds := [], alts := [], laidByText := true, laidKinds := [.data, .data], laidTests := true, laidLooks := .later }
def TablesVoidUptoCardSaid : Prop := Claim7.holds Tryd.pinned (.plain (OpenSpec.upto tablesVoidSpec)) tablesVoidUptoCard

/-- THE SECOND FORM's CARD OF 'ragpickerlaw10.TablesFull'. -/
def tablesFullUptoCard : Claim7 := { stood := { row := tablesFullUptoRow, standIns := [], harness := (true, "b03ce6ff7be372a6e3963befed50e53ecedca498131ab61500d1d0b293b07d6d"), looks := false }, kinds := [], alts := [], laidByText := true, laidKinds := [.data, .data], laidTests := true, laidLooks := .later }
def TablesFullUptoCardSaid : Prop := Claim7.holds Tryd.pinned (.plain (OpenSpec.upto tablesFullSpec)) tablesFullUptoCard

/-- THE SECOND FORM's CARD OF 'ragpickerlaw10.TablesInside'. -/
def tablesInsideUptoCard : Claim7 := { stood := { row := tablesInsideUptoRow, standIns := [], harness := (true, "b03ce6ff7be372a6e3963befed50e53ecedca498131ab61500d1d0b293b07d6d"), looks := false }, kinds := [], alts := [], laidByText := true, laidKinds := [.data, .data], laidTests := true, laidLooks := .later }
def TablesInsideUptoCardSaid : Prop := Claim7.holds Tryd.pinned (.plain (OpenSpec.upto tablesInsideSpec)) tablesInsideUptoCard
end Rows
end Go.Proofs.YtodfjnpnfalioaaDoor
