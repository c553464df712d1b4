/-
  DERIVED. GIVEN WITH THE SEED: THE CARDS: each row of YtalcbbpghfdeeaaGreatDoorRows.lean that lists a variable, with what it lists TIED to the program's text (the seventh form; the later family's looks); each row that meets fmt, with fmt's text TOLD by the authors' own Lean function (tested against real Go, not proved from fmt's source: count such statements apart). THE CARD IS WHAT COUNTS. Prove the row's statement (the work); the ties are given (YtalcbbpghfdeeaaGreatDoorTie.lean); close each card by the builder's one call (the guide's Derived/Test/ToyasCard.lean, 'card_holds'). Laid BY PROGRAM, IN A SANDBOX (cutbox-door.mjs). By AI agents, Wed Nov 11 2026. No macro, syntax, notation, axiom, sorry.
-/
import Derived.Test.YtalcbbpghfdeeaaGreatDoorRows
import GoSem.ClaimSeven
namespace Go.Proofs.YtalcbbpghfdeeaaGreatDoor
namespace Rows

/-- THE TIED CARD OF 'manometerlaw07.MatchChecks'. -/
def matchChecksCard : Claim7 := { stood := { row := matchChecksRow, standIns := [], harness := (true, "4260d5c1d2ba5be0489e4c55b9ba6d95622900d81f9cd89c52b4702a0700422f"), looks := true }, kinds := [], alts := [], laidByText := true, laidKinds := [.data, .pinned], laidTests := true, laidLooks := .later }
def MatchChecksCardSaid : Prop := Claim7.holds Tryz.pinned (.plain (OpenSpec.ofChange matchChecksSpec)) matchChecksCard

/-- THE TIED CARD OF 'manometerlaw07.MatchOnes'. -/
def matchOnesCard : Claim7 := { stood := { row := matchOnesRow, standIns := [], harness := (true, "4260d5c1d2ba5be0489e4c55b9ba6d95622900d81f9cd89c52b4702a0700422f"), looks := true }, kinds := [], alts := [], laidByText := true, laidKinds := [.data, .pinned], laidTests := true, laidLooks := .later }
def MatchOnesCardSaid : Prop := Claim7.holds Tryz.pinned (.plain (OpenSpec.ofChange matchOnesSpec)) matchOnesCard

/-- THE TIED CARD OF 'manometerlaw07.MatchAlls'. -/
def matchAllsCard : Claim7 := { stood := { row := matchAllsRow, standIns := [], harness := (true, "4260d5c1d2ba5be0489e4c55b9ba6d95622900d81f9cd89c52b4702a0700422f"), looks := true }, kinds := [], alts := [], laidByText := true, laidKinds := [.data, .pinned], laidTests := true, laidLooks := .later }
def MatchAllsCardSaid : Prop := Claim7.holds Tryz.pinned (.plain (OpenSpec.ofChange matchAllsSpec)) matchAllsCard

/-- THE TIED CARD OF 'manometerlaw07.MatchTexts'. -/
def matchTextsCard : Claim7 := { stood := { row := matchTextsRow, standIns := [], harness := (true, "4260d5c1d2ba5be0489e4c55b9ba6d95622900d81f9cd89c52b4702a0700422f"), looks := true }, kinds := [], alts := [], laidByText := true, laidKinds := [.data, .pinned], laidTests := true, laidLooks := .later }
def MatchTextsCardSaid : Prop := Claim7.holds Tryz.pinned (.plain (OpenSpec.ofChange matchTextsSpec)) matchTextsCard

/-- THE TIED CARD OF 'manometerlaw10.PostingsAdds'. -/
def postingsAddsCard : Claim7 := { stood := { row := postingsAddsRow, standIns := [], harness := (true, "4260d5c1d2ba5be0489e4c55b9ba6d95622900d81f9cd89c52b4702a0700422f"), looks := true }, kinds := [], alts := [], laidByText := true, laidKinds := [.data, .pinned], laidTests := true, laidLooks := .later }
def PostingsAddsCardSaid : Prop := Claim7.holds Tryz.pinned (.plain (OpenSpec.ofChange postingsAddsSpec)) postingsAddsCard

/-- THE SECOND FORM's CARD OF 'manometerlaw07.MatchChecks'. -/
def matchChecksUptoCard : Claim7 := { stood := { row := matchChecksUptoRow, standIns := [], harness := (true, "4260d5c1d2ba5be0489e4c55b9ba6d95622900d81f9cd89c52b4702a0700422f"), looks := true }, kinds := [], alts := [], laidByText := true, laidKinds := [.data, .pinned], laidTests := true, laidLooks := .later }
def MatchChecksUptoCardSaid : Prop := Claim7.holds Tryz.pinned (.plain (OpenSpec.upto matchChecksSpec)) matchChecksUptoCard

/-- THE SECOND FORM's CARD OF 'manometerlaw07.MatchOnes'. -/
def matchOnesUptoCard : Claim7 := { stood := { row := matchOnesUptoRow, standIns := [], harness := (true, "4260d5c1d2ba5be0489e4c55b9ba6d95622900d81f9cd89c52b4702a0700422f"), looks := true }, kinds := [], alts := [], laidByText := true, laidKinds := [.data, .pinned], laidTests := true, laidLooks := .later }
def MatchOnesUptoCardSaid : Prop := Claim7.holds Tryz.pinned (.plain (OpenSpec.upto matchOnesSpec)) matchOnesUptoCard

/-- THE SECOND FORM's CARD OF 'manometerlaw07.MatchAlls'. -/
def matchAllsUptoCard : Claim7 := { stood := { row := matchAllsUptoRow, standIns := [], harness := (true, "4260d5c1d2ba5be0489e4c55b9ba6d95622900d81f9cd89c52b4702a0700422f"), looks := true }, kinds := [], alts := [], laidByText := true, laidKinds := [.data, .pinned], laidTests := true, laidLooks := .later }
def MatchAllsUptoCardSaid : Prop := Claim7.holds Tryz.pinned (.plain (OpenSpec.upto matchAllsSpec)) matchAllsUptoCard

/-- THE SECOND FORM's CARD OF 'manometerlaw07.MatchTexts'. -/
def matchTextsUptoCard : Claim7 := { stood := { row := matchTextsUptoRow, standIns := [], harness := (true, "4260d5c1d2ba5be0489e4c55b9ba6d95622900d81f9cd89c52b4702a0700422f"), looks := true }, kinds := [], alts := [], laidByText := true, laidKinds := [.data, .pinned], laidTests := true, laidLooks := .later }
def MatchTextsUptoCardSaid : Prop := Claim7.holds Tryz.pinned (.plain (OpenSpec.upto matchTextsSpec)) matchTextsUptoCard

/-- THE SECOND FORM's CARD OF 'manometerlaw10.PostingsAdds'. -/
def postingsAddsUptoCard : Claim7 := { stood := { row := postingsAddsUptoRow, standIns := [], harness := (true, "4260d5c1d2ba5be0489e4c55b9ba6d95622900d81f9cd89c52b4702a0700422f"), looks := true }, kinds := [], alts := [], laidByText := true, laidKinds := [.data, .pinned], laidTests := true, laidLooks := .later }
def PostingsAddsUptoCardSaid : Prop := Claim7.holds Tryz.pinned (.plain (OpenSpec.upto postingsAddsSpec)) postingsAddsUptoCard
end Rows
end Go.Proofs.YtalcbbpghfdeeaaGreatDoor
