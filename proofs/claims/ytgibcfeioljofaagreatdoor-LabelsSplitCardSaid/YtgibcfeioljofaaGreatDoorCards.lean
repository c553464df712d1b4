/-
  DERIVED. GIVEN WITH THE SEED: THE CARDS: each row of YtgibcfeioljofaaGreatDoorRows.lean that lists a variable, with what it lists TIED to the program's text (the seventh form; the later family's looks); each row that meets fmt, with fmt's text TOLD by the authors' own Lean function (tested against real Go, not proved from fmt's source: count such statements apart). THE CARD IS WHAT COUNTS. Prove the row's statement (the work); the ties are given (YtgibcfeioljofaaGreatDoorTie.lean); close each card by the builder's one call (the guide's Derived/Test/ToyasCard.lean, 'card_holds'). Laid BY PROGRAM, IN A SANDBOX (cutbox-door.mjs). By AI agents, Wed Nov 11 2026. No macro, syntax, notation, axiom, sorry.
-/
import Derived.Test.YtgibcfeioljofaaGreatDoorRows
import GoSem.ClaimSeven
namespace Go.Proofs.YtgibcfeioljofaaGreatDoor
namespace Rows

/-- THE TIED CARD OF 'manometerlaw05.LabelsParts'. -/
def labelsPartsCard : Claim7 := { stood := { row := labelsPartsRow, standIns := [], harness := (true, "b7f771c795a7099a1364635f046979ce15ecb697fa13ceb3882e028dde8c38a9"), looks := false }, kinds := [], alts := [], laidByText := true, laidKinds := [.data, .pinned], laidTests := true, laidLooks := .later }
def LabelsPartsCardSaid : Prop := Claim7.holds Tryz.pinned (.plain (OpenSpec.ofChange labelsPartsSpec)) labelsPartsCard

/-- THE TIED CARD OF 'manometerlaw05.LabelsBytes'. -/
def labelsBytesCard : Claim7 := { stood := { row := labelsBytesRow, standIns := [], harness := (true, "b7f771c795a7099a1364635f046979ce15ecb697fa13ceb3882e028dde8c38a9"), looks := false }, kinds := [], alts := [], laidByText := true, laidKinds := [.data, .pinned], laidTests := true, laidLooks := .later }
def LabelsBytesCardSaid : Prop := Claim7.holds Tryz.pinned (.plain (OpenSpec.ofChange labelsBytesSpec)) labelsBytesCard

/-- THE TIED CARD OF 'manometerlaw05.LabelsHashes'. -/
def labelsHashesCard : Claim7 := { stood := { row := labelsHashesRow, standIns := [], harness := (true, "b7f771c795a7099a1364635f046979ce15ecb697fa13ceb3882e028dde8c38a9"), looks := false }, kinds := [], alts := [], laidByText := true, laidKinds := [.data, .pinned], laidTests := true, laidLooks := .later }
def LabelsHashesCardSaid : Prop := Claim7.holds Tryz.pinned (.plain (OpenSpec.ofChange labelsHashesSpec)) labelsHashesCard

/-- THE TIED CARD OF 'manometerlaw05.LabelsSplit'. -/
def labelsSplitCard : Claim7 := { stood := { row := labelsSplitRow, standIns := [], harness := (true, "b7f771c795a7099a1364635f046979ce15ecb697fa13ceb3882e028dde8c38a9"), looks := false }, kinds := [], alts := [], laidByText := true, laidKinds := [.data, .pinned], laidTests := true, laidLooks := .later }
def LabelsSplitCardSaid : Prop := Claim7.holds Tryz.pinned (.plain (OpenSpec.ofChange labelsSplitSpec)) labelsSplitCard

/-- THE SECOND FORM's CARD OF 'manometerlaw05.LabelsParts'. -/
def labelsPartsUptoCard : Claim7 := { stood := { row := labelsPartsUptoRow, standIns := [], harness := (true, "b7f771c795a7099a1364635f046979ce15ecb697fa13ceb3882e028dde8c38a9"), looks := false }, kinds := [], alts := [], laidByText := true, laidKinds := [.data, .pinned], laidTests := true, laidLooks := .later }
def LabelsPartsUptoCardSaid : Prop := Claim7.holds Tryz.pinned (.plain (OpenSpec.upto labelsPartsSpec)) labelsPartsUptoCard

/-- THE SECOND FORM's CARD OF 'manometerlaw05.LabelsBytes'. -/
def labelsBytesUptoCard : Claim7 := { stood := { row := labelsBytesUptoRow, standIns := [], harness := (true, "b7f771c795a7099a1364635f046979ce15ecb697fa13ceb3882e028dde8c38a9"), looks := false }, kinds := [], alts := [], laidByText := true, laidKinds := [.data, .pinned], laidTests := true, laidLooks := .later }
def LabelsBytesUptoCardSaid : Prop := Claim7.holds Tryz.pinned (.plain (OpenSpec.upto labelsBytesSpec)) labelsBytesUptoCard

/-- THE SECOND FORM's CARD OF 'manometerlaw05.LabelsHashes'. -/
def labelsHashesUptoCard : Claim7 := { stood := { row := labelsHashesUptoRow, standIns := [], harness := (true, "b7f771c795a7099a1364635f046979ce15ecb697fa13ceb3882e028dde8c38a9"), looks := false }, kinds := [], alts := [], laidByText := true, laidKinds := [.data, .pinned], laidTests := true, laidLooks := .later }
def LabelsHashesUptoCardSaid : Prop := Claim7.holds Tryz.pinned (.plain (OpenSpec.upto labelsHashesSpec)) labelsHashesUptoCard

/-- THE SECOND FORM's CARD OF 'manometerlaw05.LabelsSplit'. -/
def labelsSplitUptoCard : Claim7 := { stood := { row := labelsSplitUptoRow, standIns := [], harness := (true, "b7f771c795a7099a1364635f046979ce15ecb697fa13ceb3882e028dde8c38a9"), looks := false }, kinds := [], alts := [], laidByText := true, laidKinds := [.data, .pinned], laidTests := true, laidLooks := .later }
def LabelsSplitUptoCardSaid : Prop := Claim7.holds Tryz.pinned (.plain (OpenSpec.upto labelsSplitSpec)) labelsSplitUptoCard
end Rows
end Go.Proofs.YtgibcfeioljofaaGreatDoor
