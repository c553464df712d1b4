/-
  No cell of these rows narrows 'for every input' (looked for: loops, veiled, ifaces, maps, wideKeys, modest, calm, conditions, laid).
  DERIVED. THE GIVEN ROWS OF THIS SEAT. 5 by the template 'for every input the law returns true; each argument reads behind the call as it read before'; 0 by the template 'total and deterministic' (their statements: YtdihaabjmlhemaaTotals.lean).
  GIVEN WITH THE SEED: the statements are not yours to turn. If you find one false, say at which input.
  Laid BY PROGRAM, IN A SANDBOX (cutbox-rows.mjs): the forced cells as the released guide's own fill.sh prints them over the translation 9227613df52f72cb… (all of the seat's roots in one cut). By AI agents, Wed Nov 11 2026. No macro, syntax, notation, axiom, sorry.
-/
import Derived.Test.YtdihaabjmlhemaaChecked
import GoSem.Claim
import GoSem.ClaimJoined
import GoSem.ClaimMapViews
import Derived.JoinedTies
import Derived.KernelRfl
namespace Go.Proofs.Ytdihaabjmlhemaa
/- THE CELL 'sum', in the pinned program and in every row, IS THE sha256 OF THE DUMP (.gsa) THAT YtdihaabjmlhemaaProg.lean LOADS. Nothing in Lean hashes anything: it is a label: what it is worth is what the hold of that sum in a sandbox is worth. -/
noncomputable def Try.pinned : Pinned := { name := "ytdihaabjmlhemaa", sum := "9227613df52f72cbfe080130fe126fed17e8b62da7f4243e17b1720630e5caad", checked := Try.checked }
namespace Rows
def none {H : Type} : Left H := { results := [], args := [] }

/-- 'manometerlaw06.RexMatches': WHATEVER THE INPUT: true; the input reads as it did. -/
def rexMatchesSpec : ChangeSpec := { name := "rexMatches", fn := fun _ => fun
  | [d1, d2] => { results := [.lit (.bool true)], args := [d1, d2] }
  | _ => none }
def rexMatchesRow : OpenClaim := { program := "ytdihaabjmlhemaa", sum := "9227613df52f72cbfe080130fe126fed17e8b62da7f4243e17b1720630e5caad", func := "manometer/manometerlaw06.RexMatches", spec := "rexMatches", inPlace := ["internal/bytealg.IndexByteString", "internal/bytealg.IndexString", "internal/abi.NoEscape", "internal/bytealg.MakeNoZero"], unfollowed := true, recurses := true, named := ["internal/bytealg.MaxLen"], apart := false }
def RexMatchesSaid : Prop := rexMatchesRow.holds Try.pinned (OpenSpec.ofChange rexMatchesSpec)

/-- ITS FALSE NEIGHBOUR: 'it returns false'. Refute it at one input. -/
def rexMatchesWrong : ChangeSpec := { name := "rexMatches", fn := fun _ => fun
  | [d1, d2] => { results := [.lit (.bool false)], args := [d1, d2] }
  | _ => none }
def RexMatchesWrongFalsely : Prop := rexMatchesRow.holds Try.pinned (OpenSpec.ofChange rexMatchesWrong)

/-- 'manometerlaw06.RexQuotes': WHATEVER THE INPUT: true; the input reads as it did. -/
def rexQuotesSpec : ChangeSpec := { name := "rexQuotes", fn := fun _ => fun
  | [d1, d2] => { results := [.lit (.bool true)], args := [d1, d2] }
  | _ => none }
def rexQuotesRow : OpenClaim := { program := "ytdihaabjmlhemaa", sum := "9227613df52f72cbfe080130fe126fed17e8b62da7f4243e17b1720630e5caad", func := "manometer/manometerlaw06.RexQuotes", spec := "rexQuotes", inPlace := ["internal/bytealg.IndexByteString", "internal/bytealg.IndexString", "internal/abi.NoEscape", "internal/bytealg.MakeNoZero"], unfollowed := true, recurses := true, named := ["internal/bytealg.MaxLen"], apart := false }
def RexQuotesSaid : Prop := rexQuotesRow.holds Try.pinned (OpenSpec.ofChange rexQuotesSpec)

/-- ITS FALSE NEIGHBOUR: 'it returns false'. Refute it at one input. -/
def rexQuotesWrong : ChangeSpec := { name := "rexQuotes", fn := fun _ => fun
  | [d1, d2] => { results := [.lit (.bool false)], args := [d1, d2] }
  | _ => none }
def RexQuotesWrongFalsely : Prop := rexQuotesRow.holds Try.pinned (OpenSpec.ofChange rexQuotesWrong)

/-- 'manometerlaw06.RexEither': WHATEVER THE INPUT: true; the input reads as it did. -/
def rexEitherSpec : ChangeSpec := { name := "rexEither", fn := fun _ => fun
  | [d1, d2, d3, d4] => { results := [.lit (.bool true)], args := [d1, d2, d3, d4] }
  | _ => none }
def rexEitherRow : OpenClaim := { program := "ytdihaabjmlhemaa", sum := "9227613df52f72cbfe080130fe126fed17e8b62da7f4243e17b1720630e5caad", func := "manometer/manometerlaw06.RexEither", spec := "rexEither", inPlace := ["internal/bytealg.IndexByteString", "internal/bytealg.IndexString", "internal/abi.NoEscape", "internal/bytealg.MakeNoZero"], unfollowed := true, recurses := true, named := ["internal/bytealg.MaxLen"], apart := false }
def RexEitherSaid : Prop := rexEitherRow.holds Try.pinned (OpenSpec.ofChange rexEitherSpec)

/-- ITS FALSE NEIGHBOUR: 'it returns false'. Refute it at one input. -/
def rexEitherWrong : ChangeSpec := { name := "rexEither", fn := fun _ => fun
  | [d1, d2, d3, d4] => { results := [.lit (.bool false)], args := [d1, d2, d3, d4] }
  | _ => none }
def RexEitherWrongFalsely : Prop := rexEitherRow.holds Try.pinned (OpenSpec.ofChange rexEitherWrong)

/-- 'manometerlaw06.RexStars': WHATEVER THE INPUT: true; the input reads as it did. -/
def rexStarsSpec : ChangeSpec := { name := "rexStars", fn := fun _ => fun
  | [d1, d2, d3] => { results := [.lit (.bool true)], args := [d1, d2, d3] }
  | _ => none }
def rexStarsRow : OpenClaim := { program := "ytdihaabjmlhemaa", sum := "9227613df52f72cbfe080130fe126fed17e8b62da7f4243e17b1720630e5caad", func := "manometer/manometerlaw06.RexStars", spec := "rexStars", inPlace := ["internal/bytealg.IndexByteString", "internal/bytealg.IndexString", "internal/abi.NoEscape", "internal/bytealg.MakeNoZero"], unfollowed := true, recurses := true, named := ["internal/bytealg.MaxLen"], apart := false }
def RexStarsSaid : Prop := rexStarsRow.holds Try.pinned (OpenSpec.ofChange rexStarsSpec)

/-- ITS FALSE NEIGHBOUR: 'it returns false'. Refute it at one input. -/
def rexStarsWrong : ChangeSpec := { name := "rexStars", fn := fun _ => fun
  | [d1, d2, d3] => { results := [.lit (.bool false)], args := [d1, d2, d3] }
  | _ => none }
def RexStarsWrongFalsely : Prop := rexStarsRow.holds Try.pinned (OpenSpec.ofChange rexStarsWrong)

/-- 'manometerlaw06.RexValues': WHATEVER THE INPUT: true; the input reads as it did. -/
def rexValuesSpec : ChangeSpec := { name := "rexValues", fn := fun _ => fun
  | [d1, d2] => { results := [.lit (.bool true)], args := [d1, d2] }
  | _ => none }
def rexValuesRow : OpenClaim := { program := "ytdihaabjmlhemaa", sum := "9227613df52f72cbfe080130fe126fed17e8b62da7f4243e17b1720630e5caad", func := "manometer/manometerlaw06.RexValues", spec := "rexValues", inPlace := ["internal/bytealg.IndexByteString", "internal/bytealg.IndexString", "internal/abi.NoEscape", "internal/bytealg.MakeNoZero"], unfollowed := true, recurses := true, named := ["internal/bytealg.MaxLen"], apart := false }
def RexValuesSaid : Prop := rexValuesRow.holds Try.pinned (OpenSpec.ofChange rexValuesSpec)

/-- ITS FALSE NEIGHBOUR: 'it returns false'. Refute it at one input. -/
def rexValuesWrong : ChangeSpec := { name := "rexValues", fn := fun _ => fun
  | [d1, d2] => { results := [.lit (.bool false)], args := [d1, d2] }
  | _ => none }
def RexValuesWrongFalsely : Prop := rexValuesRow.holds Try.pinned (OpenSpec.ofChange rexValuesWrong)

/- THE SECOND FORM. 'bulk': how many values and letters a reading holds, each counted each time it is reached (what is shared counts as often as it is met; a slice's spare places count too). A statement '..UptoSaid' is the law's where the arguments, and the package variables that the reading takes, are together of bulk at most 1048576: NARROWER than '..Said'. Prove '..Said' where nothing that the law and all that it calls make is longer than what came in: it says more and counts as full. Else prove '..UptoSaid'. A law counts once. -/
mutual
def uptoBulk {H : Type} : DataW H → Nat
  | .lit (.string bytes) => bytes.length + 1
  | .lit _ => 1
  | .nil => 1
  | .ptr d => uptoBulk d + 1
  | .slice elems spare => uptoBulkAll elems + uptoBulkAll spare + 1
  | .agg parts => uptoBulkAll parts + 1
  | .iface _ d => uptoBulk d + 1
  | .map entries => uptoBulkEntries entries + 1
  | .held _ => 1
def uptoBulkAll {H : Type} : List (DataW H) → Nat
  | [] => 0
  | d :: r => uptoBulk d + uptoBulkAll r
def uptoBulkEntries {H : Type} : List (Lit × DataW H) → Nat
  | [] => 0
  | x :: r => uptoBulkEntry x + uptoBulkEntries r
def uptoBulkEntry {H : Type} : Lit × DataW H → Nat
  | (.string bytes, d) => bytes.length + uptoBulk d + 1
  | (_, d) => uptoBulk d + 1
 end
def uptoSmall : (H : Type) → List (DataW H) → Bool := fun _ ds => decide (uptoBulkAll ds ≤ 1048576)
def OpenSpec.upto (s : _root_.Go.ChangeSpec) : _root_.Go.OpenSpec := { _root_.Go.OpenSpec.ofChange s with cond := some uptoSmall }

/-- 'manometerlaw06.RexMatches', WHERE WHAT IT READS IS OF BULK AT MOST 1048576: true; the input reads as it did. -/
def rexMatchesUptoRow : OpenClaim := { program := "ytdihaabjmlhemaa", sum := "9227613df52f72cbfe080130fe126fed17e8b62da7f4243e17b1720630e5caad", func := "manometer/manometerlaw06.RexMatches", spec := "rexMatches", inPlace := ["internal/bytealg.IndexByteString", "internal/bytealg.IndexString", "internal/abi.NoEscape", "internal/bytealg.MakeNoZero"], unfollowed := true, recurses := true, named := ["internal/bytealg.MaxLen"], apart := false, narrowed := true }
def RexMatchesUptoSaid : Prop := rexMatchesUptoRow.holds Try.pinned (OpenSpec.upto rexMatchesSpec)

/-- 'manometerlaw06.RexQuotes', WHERE WHAT IT READS IS OF BULK AT MOST 1048576: true; the input reads as it did. -/
def rexQuotesUptoRow : OpenClaim := { program := "ytdihaabjmlhemaa", sum := "9227613df52f72cbfe080130fe126fed17e8b62da7f4243e17b1720630e5caad", func := "manometer/manometerlaw06.RexQuotes", spec := "rexQuotes", inPlace := ["internal/bytealg.IndexByteString", "internal/bytealg.IndexString", "internal/abi.NoEscape", "internal/bytealg.MakeNoZero"], unfollowed := true, recurses := true, named := ["internal/bytealg.MaxLen"], apart := false, narrowed := true }
def RexQuotesUptoSaid : Prop := rexQuotesUptoRow.holds Try.pinned (OpenSpec.upto rexQuotesSpec)

/-- 'manometerlaw06.RexEither', WHERE WHAT IT READS IS OF BULK AT MOST 1048576: true; the input reads as it did. -/
def rexEitherUptoRow : OpenClaim := { program := "ytdihaabjmlhemaa", sum := "9227613df52f72cbfe080130fe126fed17e8b62da7f4243e17b1720630e5caad", func := "manometer/manometerlaw06.RexEither", spec := "rexEither", inPlace := ["internal/bytealg.IndexByteString", "internal/bytealg.IndexString", "internal/abi.NoEscape", "internal/bytealg.MakeNoZero"], unfollowed := true, recurses := true, named := ["internal/bytealg.MaxLen"], apart := false, narrowed := true }
def RexEitherUptoSaid : Prop := rexEitherUptoRow.holds Try.pinned (OpenSpec.upto rexEitherSpec)

/-- 'manometerlaw06.RexStars', WHERE WHAT IT READS IS OF BULK AT MOST 1048576: true; the input reads as it did. -/
def rexStarsUptoRow : OpenClaim := { program := "ytdihaabjmlhemaa", sum := "9227613df52f72cbfe080130fe126fed17e8b62da7f4243e17b1720630e5caad", func := "manometer/manometerlaw06.RexStars", spec := "rexStars", inPlace := ["internal/bytealg.IndexByteString", "internal/bytealg.IndexString", "internal/abi.NoEscape", "internal/bytealg.MakeNoZero"], unfollowed := true, recurses := true, named := ["internal/bytealg.MaxLen"], apart := false, narrowed := true }
def RexStarsUptoSaid : Prop := rexStarsUptoRow.holds Try.pinned (OpenSpec.upto rexStarsSpec)

/-- 'manometerlaw06.RexValues', WHERE WHAT IT READS IS OF BULK AT MOST 1048576: true; the input reads as it did. -/
def rexValuesUptoRow : OpenClaim := { program := "ytdihaabjmlhemaa", sum := "9227613df52f72cbfe080130fe126fed17e8b62da7f4243e17b1720630e5caad", func := "manometer/manometerlaw06.RexValues", spec := "rexValues", inPlace := ["internal/bytealg.IndexByteString", "internal/bytealg.IndexString", "internal/abi.NoEscape", "internal/bytealg.MakeNoZero"], unfollowed := true, recurses := true, named := ["internal/bytealg.MaxLen"], apart := false, narrowed := true }
def RexValuesUptoSaid : Prop := rexValuesUptoRow.holds Try.pinned (OpenSpec.upto rexValuesSpec)

end Rows
end Go.Proofs.Ytdihaabjmlhemaa
