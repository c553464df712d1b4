/-
  DERIVED. GIVEN WITH THE SEED: THE CARDS: each row of YtmicbgcdnkomjaaDoorRows.lean that lists a variable, with what it lists TIED to the program's text (the seventh form; the later family's looks); each row that meets fmt, with fmt's text TOLD by the authors' own Lean function (tested against real Go, not proved from fmt's source: count such statements apart). THE CARD IS WHAT COUNTS. Prove the row's statement (the work); the ties are given (YtmicbgcdnkomjaaDoorTie.lean); close each card by the builder's one call (the guide's Derived/Test/ToyasCard.lean, 'card_holds'). Laid BY PROGRAM, IN A SANDBOX (cutbox-door.mjs). By AI agents, Wed Nov 11 2026. No macro, syntax, notation, axiom, sorry.
-/
import Derived.Test.YtmicbgcdnkomjaaDoorRows
import GoSem.ClaimSeven
namespace Go.Proofs.YtmicbgcdnkomjaaDoor
namespace Rows

/-- THE TIED CARD OF 'manometerlaw03.HashCuts'. -/
def hashCutsCard : Claim7 := { stood := { row := hashCutsRow, standIns := [], harness := (true, "4724505d175ffe813d09334f263edf17e74f3636851b213cfe6b2636292df06c"), looks := false }, kinds := [], alts := [], laidByText := true, laidKinds := [.data], laidTests := true, laidLooks := .later }
def HashCutsCardSaid : Prop := Claim7.holds Tryd.pinned (.plain (OpenSpec.ofChange hashCutsSpec)) hashCutsCard

/-- THE TIED CARD OF 'manometerlaw03.HashLetters'. -/
def hashLettersCard : Claim7 := { stood := { row := hashLettersRow, standIns := [], harness := (true, "4724505d175ffe813d09334f263edf17e74f3636851b213cfe6b2636292df06c"), looks := false }, kinds := [], alts := [], laidByText := true, laidKinds := [.data], laidTests := true, laidLooks := .later }
def HashLettersCardSaid : Prop := Claim7.holds Tryd.pinned (.plain (OpenSpec.ofChange hashLettersSpec)) hashLettersCard

/-- THE TIED CARD OF 'manometerlaw03.HashBack'. -/
def hashBackCard : Claim7 := { stood := { row := hashBackRow, standIns := [], harness := (true, "4724505d175ffe813d09334f263edf17e74f3636851b213cfe6b2636292df06c"), looks := false }, kinds := [], alts := [], laidByText := true, laidKinds := [.data], laidTests := true, laidLooks := .later }
def HashBackCardSaid : Prop := Claim7.holds Tryd.pinned (.plain (OpenSpec.ofChange hashBackSpec)) hashBackCard

/-- THE TIED CARD OF 'manometerlaw05.LabelsBack'. -/
def labelsBackCard : Claim7 := { stood := { row := labelsBackRow, standIns := [], harness := (true, "4724505d175ffe813d09334f263edf17e74f3636851b213cfe6b2636292df06c"), looks := false }, kinds := [], alts := [], laidByText := true, laidKinds := [.data, .pinned], laidTests := true, laidLooks := .later }
def LabelsBackCardSaid : Prop := Claim7.holds Tryd.pinned (.plain (OpenSpec.ofChange labelsBackSpec)) labelsBackCard

/-- THE SECOND FORM's CARD OF 'manometerlaw03.HashCuts'. -/
def hashCutsUptoCard : Claim7 := { stood := { row := hashCutsUptoRow, standIns := [], harness := (true, "4724505d175ffe813d09334f263edf17e74f3636851b213cfe6b2636292df06c"), looks := false }, kinds := [], alts := [], laidByText := true, laidKinds := [.data], laidTests := true, laidLooks := .later }
def HashCutsUptoCardSaid : Prop := Claim7.holds Tryd.pinned (.plain (OpenSpec.upto hashCutsSpec)) hashCutsUptoCard

/-- THE SECOND FORM's CARD OF 'manometerlaw03.HashLetters'. -/
def hashLettersUptoCard : Claim7 := { stood := { row := hashLettersUptoRow, standIns := [], harness := (true, "4724505d175ffe813d09334f263edf17e74f3636851b213cfe6b2636292df06c"), looks := false }, kinds := [], alts := [], laidByText := true, laidKinds := [.data], laidTests := true, laidLooks := .later }
def HashLettersUptoCardSaid : Prop := Claim7.holds Tryd.pinned (.plain (OpenSpec.upto hashLettersSpec)) hashLettersUptoCard

/-- THE SECOND FORM's CARD OF 'manometerlaw03.HashBack'. -/
def hashBackUptoCard : Claim7 := { stood := { row := hashBackUptoRow, standIns := [], harness := (true, "4724505d175ffe813d09334f263edf17e74f3636851b213cfe6b2636292df06c"), looks := false }, kinds := [], alts := [], laidByText := true, laidKinds := [.data], laidTests := true, laidLooks := .later }
def HashBackUptoCardSaid : Prop := Claim7.holds Tryd.pinned (.plain (OpenSpec.upto hashBackSpec)) hashBackUptoCard

/-- THE SECOND FORM's CARD OF 'manometerlaw05.LabelsBack'. -/
def labelsBackUptoCard : Claim7 := { stood := { row := labelsBackUptoRow, standIns := [], harness := (true, "4724505d175ffe813d09334f263edf17e74f3636851b213cfe6b2636292df06c"), looks := false }, kinds := [], alts := [], laidByText := true, laidKinds := [.data, .pinned], laidTests := true, laidLooks := .later }
def LabelsBackUptoCardSaid : Prop := Claim7.holds Tryd.pinned (.plain (OpenSpec.upto labelsBackSpec)) labelsBackUptoCard
end Rows
end Go.Proofs.YtmicbgcdnkomjaaDoor
