/-
  DERIVED. GIVEN WITH THE SEED: THE CARDS: each row of YtapcgikamldchaaDoorRows.lean that lists a variable, with what it lists TIED to the program's text (the seventh form; the later family's looks); each row that meets fmt, with fmt's text TOLD by the authors' own Lean function (tested against real Go, not proved from fmt's source: count such statements apart). THE CARD IS WHAT COUNTS. Prove the row's statement (the work); the ties are given (YtapcgikamldchaaDoorTie.lean); close each card by the builder's one call (the guide's Derived/Test/ToyasCard.lean, 'card_holds'). Laid BY PROGRAM, IN A SANDBOX (cutbox-door.mjs). By AI agents, Wed Nov 11 2026. No macro, syntax, notation, axiom, sorry.
-/
import Derived.Test.YtapcgikamldchaaDoorRows
import GoSem.ClaimSeven
namespace Go.Proofs.YtapcgikamldchaaDoor
namespace Rows

/-- THE TIED CARD OF 'ragpickerlaw14.SnapsPlay'. -/
def snapsPlayCard : Claim7 := { stood := { row := snapsPlayRow, standIns := [], harness := (true, "dfd2cd19e9b4c8177e608d10af18a1be17818bdba7ca920830b111b36a385b95"), looks := false }, kinds := [], alts := [], laidByText := true, laidKinds := [.data], laidTests := true, laidLooks := .later }
def SnapsPlayCardSaid : Prop := Claim7.holds Tryd.pinned (.plain (OpenSpec.ofChange snapsPlaySpec)) snapsPlayCard

/-- THE TIED CARD OF 'ragpickerlaw14.SnapsAny'. -/
def snapsAnyCard : Claim7 := { stood := { row := snapsAnyRow, standIns := [], harness := (true, "dfd2cd19e9b4c8177e608d10af18a1be17818bdba7ca920830b111b36a385b95"), looks := false }, kinds := [], alts := [], laidByText := true, laidKinds := [.data], laidTests := true, laidLooks := .later }
def SnapsAnyCardSaid : Prop := Claim7.holds Tryd.pinned (.plain (OpenSpec.ofChange snapsAnySpec)) snapsAnyCard

/-- THE TIED CARD OF 'ragpickerlaw14.SnapsStill'. -/
def snapsStillCard : Claim7 := { stood := { row := snapsStillRow, standIns := [], harness := (true, "dfd2cd19e9b4c8177e608d10af18a1be17818bdba7ca920830b111b36a385b95"), looks := false }, kinds := [], alts := [], laidByText := true, laidKinds := [.data], laidTests := true, laidLooks := .later }
def SnapsStillCardSaid : Prop := Claim7.holds Tryd.pinned (.plain (OpenSpec.ofChange snapsStillSpec)) snapsStillCard

/-- THE TIED CARD OF 'ragpickerlaw14.SnapsMoved'. -/
def snapsMovedCard : Claim7 := { stood := { row := snapsMovedRow, standIns := [], harness := (true, "dfd2cd19e9b4c8177e608d10af18a1be17818bdba7ca920830b111b36a385b95"), looks := false }, kinds := [], alts := [], laidByText := true, laidKinds := [.data], laidTests := true, laidLooks := .later }
def SnapsMovedCardSaid : Prop := Claim7.holds Tryd.pinned (.plain (OpenSpec.ofChange snapsMovedSpec)) snapsMovedCard

/-- THE SECOND FORM's CARD OF 'ragpickerlaw14.SnapsPlay'. -/
def snapsPlayUptoCard : Claim7 := { stood := { row := snapsPlayUptoRow, standIns := [], harness := (true, "dfd2cd19e9b4c8177e608d10af18a1be17818bdba7ca920830b111b36a385b95"), looks := false }, kinds := [], alts := [], laidByText := true, laidKinds := [.data], laidTests := true, laidLooks := .later }
def SnapsPlayUptoCardSaid : Prop := Claim7.holds Tryd.pinned (.plain (OpenSpec.upto snapsPlaySpec)) snapsPlayUptoCard

/-- THE SECOND FORM's CARD OF 'ragpickerlaw14.SnapsAny'. -/
def snapsAnyUptoCard : Claim7 := { stood := { row := snapsAnyUptoRow, standIns := [], harness := (true, "dfd2cd19e9b4c8177e608d10af18a1be17818bdba7ca920830b111b36a385b95"), looks := false }, kinds := [], alts := [], laidByText := true, laidKinds := [.data], laidTests := true, laidLooks := .later }
def SnapsAnyUptoCardSaid : Prop := Claim7.holds Tryd.pinned (.plain (OpenSpec.upto snapsAnySpec)) snapsAnyUptoCard

/-- THE SECOND FORM's CARD OF 'ragpickerlaw14.SnapsStill'. -/
def snapsStillUptoCard : Claim7 := { stood := { row := snapsStillUptoRow, standIns := [], harness := (true, "dfd2cd19e9b4c8177e608d10af18a1be17818bdba7ca920830b111b36a385b95"), looks := false }, kinds := [], alts := [], laidByText := true, laidKinds := [.data], laidTests := true, laidLooks := .later }
def SnapsStillUptoCardSaid : Prop := Claim7.holds Tryd.pinned (.plain (OpenSpec.upto snapsStillSpec)) snapsStillUptoCard

/-- THE SECOND FORM's CARD OF 'ragpickerlaw14.SnapsMoved'. -/
def snapsMovedUptoCard : Claim7 := { stood := { row := snapsMovedUptoRow, standIns := [], harness := (true, "dfd2cd19e9b4c8177e608d10af18a1be17818bdba7ca920830b111b36a385b95"), looks := false }, kinds := [], alts := [], laidByText := true, laidKinds := [.data], laidTests := true, laidLooks := .later }
def SnapsMovedUptoCardSaid : Prop := Claim7.holds Tryd.pinned (.plain (OpenSpec.upto snapsMovedSpec)) snapsMovedUptoCard
end Rows
end Go.Proofs.YtapcgikamldchaaDoor
