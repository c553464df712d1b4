/-
  DERIVED. GIVEN WITH THE SEED: THE CARDS: each row of YtalcbbpghfdeeaaDoorRows.lean that lists a variable, with what it lists TIED to the program's text (the seventh form; the later family's looks); each row that meets fmt, with fmt's text TOLD by the authors' own Lean function (tested against real Go, not proved from fmt's source: count such statements apart). THE CARD IS WHAT COUNTS. Prove the row's statement (the work); the ties are given (YtalcbbpghfdeeaaDoorTie.lean); close each card by the builder's one call (the guide's Derived/Test/ToyasCard.lean, 'card_holds'). Laid BY PROGRAM, IN A SANDBOX (cutbox-door.mjs). By AI agents, Wed Nov 11 2026. No macro, syntax, notation, axiom, sorry.
-/
import Derived.Test.YtalcbbpghfdeeaaDoorRows
import GoSem.ClaimSeven
namespace Go.Proofs.YtalcbbpghfdeeaaDoor
namespace Rows

/-- THE TIED CARD OF 'manometerlaw03.HashCuts'. -/
def hashCutsCard : Claim7 := { stood := { row := hashCutsRow, standIns := [], harness := (true, "fd2d6edc311474f22afa58a9a16120592eb1c927a597f3f31f6ca9fd4735e574"), looks := true }, kinds := [], alts := [], laidByText := true, laidKinds := [.data], laidTests := true, laidLooks := .later }
def HashCutsCardSaid : Prop := Claim7.holds Tryd.pinned (.plain (OpenSpec.ofChange hashCutsSpec)) hashCutsCard

/-- THE TIED CARD OF 'manometerlaw07.MatchTold'. -/
def matchToldCard : Claim7 := { stood := { row := matchToldRow, standIns := [], harness := (true, "fd2d6edc311474f22afa58a9a16120592eb1c927a597f3f31f6ca9fd4735e574"), looks := true }, kinds := [], alts := [], laidByText := true, laidKinds := [.data, .pinned], laidTests := true, laidLooks := .later }
def MatchToldCardSaid : Prop := Claim7.holds Tryd.pinned (.plain (OpenSpec.ofChange matchToldSpec)) matchToldCard

/-- THE TIED CARD OF 'manometerlaw07.MatchTurned'. -/
def matchTurnedCard : Claim7 := { stood := { row := matchTurnedRow, standIns := [], harness := (true, "fd2d6edc311474f22afa58a9a16120592eb1c927a597f3f31f6ca9fd4735e574"), looks := true }, kinds := [], alts := [], laidByText := true, laidKinds := [.data, .pinned], laidTests := true, laidLooks := .later }
def MatchTurnedCardSaid : Prop := Claim7.holds Tryd.pinned (.plain (OpenSpec.ofChange matchTurnedSpec)) matchTurnedCard

/-- THE TIED CARD OF 'manometerlaw07.MatchNarrow'. -/
def matchNarrowCard : Claim7 := { stood := { row := matchNarrowRow, standIns := [], harness := (true, "fd2d6edc311474f22afa58a9a16120592eb1c927a597f3f31f6ca9fd4735e574"), looks := true }, kinds := [], alts := [], laidByText := true, laidKinds := [.data, .pinned], laidTests := true, laidLooks := .later }
def MatchNarrowCardSaid : Prop := Claim7.holds Tryd.pinned (.plain (OpenSpec.ofChange matchNarrowSpec)) matchNarrowCard

/-- THE TIED CARD OF 'manometerlaw07.MatchPlain'. -/
def matchPlainCard : Claim7 := { stood := { row := matchPlainRow, standIns := [], harness := (true, "fd2d6edc311474f22afa58a9a16120592eb1c927a597f3f31f6ca9fd4735e574"), looks := true }, kinds := [], alts := [], laidByText := true, laidKinds := [.data, .pinned], laidTests := true, laidLooks := .later }
def MatchPlainCardSaid : Prop := Claim7.holds Tryd.pinned (.plain (OpenSpec.ofChange matchPlainSpec)) matchPlainCard

/-- THE TIED CARD OF 'manometerlaw07.MatchNone'. -/
def matchNoneCard : Claim7 := { stood := { row := matchNoneRow, standIns := [], harness := (true, "fd2d6edc311474f22afa58a9a16120592eb1c927a597f3f31f6ca9fd4735e574"), looks := true }, kinds := [], alts := [], laidByText := true, laidKinds := [.data, .pinned], laidTests := true, laidLooks := .later }
def MatchNoneCardSaid : Prop := Claim7.holds Tryd.pinned (.plain (OpenSpec.ofChange matchNoneSpec)) matchNoneCard

/-- THE SECOND FORM's CARD OF 'manometerlaw03.HashCuts'. -/
def hashCutsUptoCard : Claim7 := { stood := { row := hashCutsUptoRow, standIns := [], harness := (true, "fd2d6edc311474f22afa58a9a16120592eb1c927a597f3f31f6ca9fd4735e574"), looks := true }, kinds := [], alts := [], laidByText := true, laidKinds := [.data], laidTests := true, laidLooks := .later }
def HashCutsUptoCardSaid : Prop := Claim7.holds Tryd.pinned (.plain (OpenSpec.upto hashCutsSpec)) hashCutsUptoCard

/-- THE SECOND FORM's CARD OF 'manometerlaw07.MatchTold'. -/
def matchToldUptoCard : Claim7 := { stood := { row := matchToldUptoRow, standIns := [], harness := (true, "fd2d6edc311474f22afa58a9a16120592eb1c927a597f3f31f6ca9fd4735e574"), looks := true }, kinds := [], alts := [], laidByText := true, laidKinds := [.data, .pinned], laidTests := true, laidLooks := .later }
def MatchToldUptoCardSaid : Prop := Claim7.holds Tryd.pinned (.plain (OpenSpec.upto matchToldSpec)) matchToldUptoCard

/-- THE SECOND FORM's CARD OF 'manometerlaw07.MatchTurned'. -/
def matchTurnedUptoCard : Claim7 := { stood := { row := matchTurnedUptoRow, standIns := [], harness := (true, "fd2d6edc311474f22afa58a9a16120592eb1c927a597f3f31f6ca9fd4735e574"), looks := true }, kinds := [], alts := [], laidByText := true, laidKinds := [.data, .pinned], laidTests := true, laidLooks := .later }
def MatchTurnedUptoCardSaid : Prop := Claim7.holds Tryd.pinned (.plain (OpenSpec.upto matchTurnedSpec)) matchTurnedUptoCard

/-- THE SECOND FORM's CARD OF 'manometerlaw07.MatchNarrow'. -/
def matchNarrowUptoCard : Claim7 := { stood := { row := matchNarrowUptoRow, standIns := [], harness := (true, "fd2d6edc311474f22afa58a9a16120592eb1c927a597f3f31f6ca9fd4735e574"), looks := true }, kinds := [], alts := [], laidByText := true, laidKinds := [.data, .pinned], laidTests := true, laidLooks := .later }
def MatchNarrowUptoCardSaid : Prop := Claim7.holds Tryd.pinned (.plain (OpenSpec.upto matchNarrowSpec)) matchNarrowUptoCard

/-- THE SECOND FORM's CARD OF 'manometerlaw07.MatchPlain'. -/
def matchPlainUptoCard : Claim7 := { stood := { row := matchPlainUptoRow, standIns := [], harness := (true, "fd2d6edc311474f22afa58a9a16120592eb1c927a597f3f31f6ca9fd4735e574"), looks := true }, kinds := [], alts := [], laidByText := true, laidKinds := [.data, .pinned], laidTests := true, laidLooks := .later }
def MatchPlainUptoCardSaid : Prop := Claim7.holds Tryd.pinned (.plain (OpenSpec.upto matchPlainSpec)) matchPlainUptoCard

/-- THE SECOND FORM's CARD OF 'manometerlaw07.MatchNone'. -/
def matchNoneUptoCard : Claim7 := { stood := { row := matchNoneUptoRow, standIns := [], harness := (true, "fd2d6edc311474f22afa58a9a16120592eb1c927a597f3f31f6ca9fd4735e574"), looks := true }, kinds := [], alts := [], laidByText := true, laidKinds := [.data, .pinned], laidTests := true, laidLooks := .later }
def MatchNoneUptoCardSaid : Prop := Claim7.holds Tryd.pinned (.plain (OpenSpec.upto matchNoneSpec)) matchNoneUptoCard
end Rows
end Go.Proofs.YtalcbbpghfdeeaaDoor
