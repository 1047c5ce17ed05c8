/-
  DERIVED. GIVEN WITH THE SEED: THE CARDS: each row of YtipgidkpjilhoaaDoorRows.lean that lists a variable, with what it lists TIED to the program's text (the seventh form; the later family's looks); each row that meets fmt, with fmt's text TOLD by the authors' own Lean function (tested against real Go, not proved from fmt's source: count such statements apart). THE CARD IS WHAT COUNTS. Prove the row's statement (the work); the ties are given (YtipgidkpjilhoaaDoorTie.lean); close each card by the builder's one call (the guide's Derived/Test/ToyasCard.lean, 'card_holds'). Laid BY PROGRAM, IN A SANDBOX (cutbox-door.mjs). By AI agents, Wed Nov 11 2026. No macro, syntax, notation, axiom, sorry.
-/
import Derived.Test.YtipgidkpjilhoaaDoorRows
import GoSem.ClaimSeven
namespace Go.Proofs.YtipgidkpjilhoaaDoor
namespace Rows

/-- THE TIED CARD OF 'ragpickerlaw07.FreesPlay'. -/
def freesPlayCard : Claim7 := { stood := { row := freesPlayRow, standIns := [], harness := (true, "8a5065074daf275242a51341aebb24292075c5f4a803a467ee013b4b2f8060df"), looks := false }, kinds := [], alts := [], laidByText := true, laidKinds := [.data, .data], laidTests := true, laidLooks := .later }
def FreesPlayCardSaid : Prop := Claim7.holds Tryd.pinned (.plain (OpenSpec.ofChange freesPlaySpec)) freesPlayCard

/-- THE TIED CARD OF 'ragpickerlaw07.FreesVoid'. -/
def freesVoidCard : Claim7 := { stood := { row := freesVoidRow, standIns := [], harness := (true, "8a5065074daf275242a51341aebb24292075c5f4a803a467ee013b4b2f8060df"), looks := false }, kinds := [], alts := [], laidByText := true, laidKinds := [.data, .data], laidTests := true, laidLooks := .later }
def FreesVoidCardSaid : Prop := Claim7.holds Tryd.pinned (.plain (OpenSpec.ofChange freesVoidSpec)) freesVoidCard

/-- THE TIED CARD OF 'ragpickerlaw07.FreesOnce'. -/
def freesOnceCard : Claim7 := { stood := { row := freesOnceRow, standIns := [], harness := (true, "8a5065074daf275242a51341aebb24292075c5f4a803a467ee013b4b2f8060df"), looks := false }, kinds := [], alts := [], laidByText := true, laidKinds := [.data, .data], laidTests := true, laidLooks := .later }
def FreesOnceCardSaid : Prop := Claim7.holds Tryd.pinned (.plain (OpenSpec.ofChange freesOnceSpec)) freesOnceCard

/-- THE TIED CARD OF 'ragpickerlaw07.FreesStack'. -/
def freesStackCard : Claim7 := { stood := { row := freesStackRow, standIns := [], harness := (true, "8a5065074daf275242a51341aebb24292075c5f4a803a467ee013b4b2f8060df"), looks := false }, kinds := [], alts := [], laidByText := true, laidKinds := [.data, .data], laidTests := true, laidLooks := .later }
def FreesStackCardSaid : Prop := Claim7.holds Tryd.pinned (.plain (OpenSpec.ofChange freesStackSpec)) freesStackCard

/-- THE SECOND FORM's CARD OF 'ragpickerlaw07.FreesPlay'. -/
def freesPlayUptoCard : Claim7 := { stood := { row := freesPlayUptoRow, standIns := [], harness := (true, "8a5065074daf275242a51341aebb24292075c5f4a803a467ee013b4b2f8060df"), looks := false }, kinds := [], alts := [], laidByText := true, laidKinds := [.data, .data], laidTests := true, laidLooks := .later }
def FreesPlayUptoCardSaid : Prop := Claim7.holds Tryd.pinned (.plain (OpenSpec.upto freesPlaySpec)) freesPlayUptoCard

/-- THE SECOND FORM's CARD OF 'ragpickerlaw07.FreesVoid'. -/
def freesVoidUptoCard : Claim7 := { stood := { row := freesVoidUptoRow, standIns := [], harness := (true, "8a5065074daf275242a51341aebb24292075c5f4a803a467ee013b4b2f8060df"), looks := false }, kinds := [], alts := [], laidByText := true, laidKinds := [.data, .data], laidTests := true, laidLooks := .later }
def FreesVoidUptoCardSaid : Prop := Claim7.holds Tryd.pinned (.plain (OpenSpec.upto freesVoidSpec)) freesVoidUptoCard

/-- THE SECOND FORM's CARD OF 'ragpickerlaw07.FreesOnce'. -/
def freesOnceUptoCard : Claim7 := { stood := { row := freesOnceUptoRow, standIns := [], harness := (true, "8a5065074daf275242a51341aebb24292075c5f4a803a467ee013b4b2f8060df"), looks := false }, kinds := [], alts := [], laidByText := true, laidKinds := [.data, .data], laidTests := true, laidLooks := .later }
def FreesOnceUptoCardSaid : Prop := Claim7.holds Tryd.pinned (.plain (OpenSpec.upto freesOnceSpec)) freesOnceUptoCard

/-- THE SECOND FORM's CARD OF 'ragpickerlaw07.FreesStack'. -/
def freesStackUptoCard : Claim7 := { stood := { row := freesStackUptoRow, standIns := [], harness := (true, "8a5065074daf275242a51341aebb24292075c5f4a803a467ee013b4b2f8060df"), looks := false }, kinds := [], alts := [], laidByText := true, laidKinds := [.data, .data], laidTests := true, laidLooks := .later }
def FreesStackUptoCardSaid : Prop := Claim7.holds Tryd.pinned (.plain (OpenSpec.upto freesStackSpec)) freesStackUptoCard
end Rows
end Go.Proofs.YtipgidkpjilhoaaDoor
