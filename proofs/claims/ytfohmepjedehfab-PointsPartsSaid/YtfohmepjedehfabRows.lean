/-
  No cell of these rows narrows 'for every input' (looked for: loops, veiled, ifaces, maps, wideKeys, modest, calm, conditions, laid).
  DERIVED. THE GIVEN ROWS OF THIS SEAT. 4 by the template 'for every input the law returns true; each argument reads behind the call as it read before'; 0 by the template 'total and deterministic' (their statements: YtfohmepjedehfabTotals.lean).
  GIVEN WITH THE SEED: the statements are not yours to turn. If you find one false, say at which input.
  Laid BY PROGRAM, IN A SANDBOX (cutbox-rows.mjs): the forced cells as the released guide's own fill.sh prints them over the translation a9bd8a10938ad76a… (all of the seat's roots in one cut). By AI agents, Wed Nov 11 2026. No macro, syntax, notation, axiom, sorry.
-/
import Derived.Test.YtfohmepjedehfabChecked
import GoSem.Claim
import GoSem.ClaimJoined
import GoSem.ClaimMapViews
import Derived.JoinedTies
import Derived.KernelRfl
namespace Go.Proofs.Ytfohmepjedehfab
/- THE CELL 'sum', in the pinned program and in every row, IS THE sha256 OF THE DUMP (.gsa) THAT YtfohmepjedehfabProg.lean LOADS. Nothing in Lean hashes anything: it is a label: what it is worth is what the hold of that sum in a sandbox is worth. -/
noncomputable def Try.pinned : Pinned := { name := "ytfohmepjedehfab", sum := "a9bd8a10938ad76a1edb6db2f05b85d79511ddf96a2cf998a078634a58a8dfa8", checked := Try.checked }
namespace Rows
def none {H : Type} : Left H := { results := [], args := [] }

/-- 'manometerlaw09.PointsStays': WHATEVER THE INPUT: true; the input reads as it did. -/
def pointsStaysSpec : ChangeSpec := { name := "pointsStays", fn := fun _ => fun
  | [d1, d2] => { results := [.lit (.bool true)], args := [d1, d2] }
  | _ => none }
def pointsStaysRow : OpenClaim := { program := "ytfohmepjedehfab", sum := "a9bd8a10938ad76a1edb6db2f05b85d79511ddf96a2cf998a078634a58a8dfa8", func := "manometer/manometerlaw09.PointsStays", spec := "pointsStays", unfollowed := true, recurses := true, apart := false }
def PointsStaysSaid : Prop := pointsStaysRow.holds Try.pinned (OpenSpec.ofChange pointsStaysSpec)

/-- ITS FALSE NEIGHBOUR: 'it returns false'. Refute it at one input. -/
def pointsStaysWrong : ChangeSpec := { name := "pointsStays", fn := fun _ => fun
  | [d1, d2] => { results := [.lit (.bool false)], args := [d1, d2] }
  | _ => none }
def PointsStaysWrongFalsely : Prop := pointsStaysRow.holds Try.pinned (OpenSpec.ofChange pointsStaysWrong)

/-- 'manometerlaw09.PointsParts': WHATEVER THE INPUT: true; the input reads as it did. -/
def pointsPartsSpec : ChangeSpec := { name := "pointsParts", fn := fun _ => fun
  | [d1, d2] => { results := [.lit (.bool true)], args := [d1, d2] }
  | _ => none }
def pointsPartsRow : OpenClaim := { program := "ytfohmepjedehfab", sum := "a9bd8a10938ad76a1edb6db2f05b85d79511ddf96a2cf998a078634a58a8dfa8", func := "manometer/manometerlaw09.PointsParts", spec := "pointsParts", unfollowed := true, recurses := true, apart := false }
def PointsPartsSaid : Prop := pointsPartsRow.holds Try.pinned (OpenSpec.ofChange pointsPartsSpec)

/-- ITS FALSE NEIGHBOUR: 'it returns false'. Refute it at one input. -/
def pointsPartsWrong : ChangeSpec := { name := "pointsParts", fn := fun _ => fun
  | [d1, d2] => { results := [.lit (.bool false)], args := [d1, d2] }
  | _ => none }
def PointsPartsWrongFalsely : Prop := pointsPartsRow.holds Try.pinned (OpenSpec.ofChange pointsPartsWrong)

/-- 'manometerlaw09.PointsPartly': WHATEVER THE INPUT: true; the input reads as it did. -/
def pointsPartlySpec : ChangeSpec := { name := "pointsPartly", fn := fun _ => fun
  | [d1, d2, d3] => { results := [.lit (.bool true)], args := [d1, d2, d3] }
  | _ => none }
def pointsPartlyRow : OpenClaim := { program := "ytfohmepjedehfab", sum := "a9bd8a10938ad76a1edb6db2f05b85d79511ddf96a2cf998a078634a58a8dfa8", func := "manometer/manometerlaw09.PointsPartly", spec := "pointsPartly", unfollowed := true, recurses := true, apart := false }
def PointsPartlySaid : Prop := pointsPartlyRow.holds Try.pinned (OpenSpec.ofChange pointsPartlySpec)

/-- ITS FALSE NEIGHBOUR: 'it returns false'. Refute it at one input. -/
def pointsPartlyWrong : ChangeSpec := { name := "pointsPartly", fn := fun _ => fun
  | [d1, d2, d3] => { results := [.lit (.bool false)], args := [d1, d2, d3] }
  | _ => none }
def PointsPartlyWrongFalsely : Prop := pointsPartlyRow.holds Try.pinned (OpenSpec.ofChange pointsPartlyWrong)

/-- 'manometerlaw06.RexMatches': WHATEVER THE INPUT: true; the input reads as it did. -/
def rexMatchesSpec : ChangeSpec := { name := "rexMatches", fn := fun _ => fun
  | [d1, d2] => { results := [.lit (.bool true)], args := [d1, d2] }
  | _ => none }
def rexMatchesRow : OpenClaim := { program := "ytfohmepjedehfab", sum := "a9bd8a10938ad76a1edb6db2f05b85d79511ddf96a2cf998a078634a58a8dfa8", func := "manometer/manometerlaw06.RexMatches", spec := "rexMatches", inPlace := ["internal/bytealg.IndexByteString", "internal/bytealg.IndexString", "internal/abi.NoEscape", "internal/bytealg.MakeNoZero"], unfollowed := true, recurses := true, named := ["internal/bytealg.MaxLen"], apart := false }
def RexMatchesSaid : Prop := rexMatchesRow.holds Try.pinned (OpenSpec.ofChange rexMatchesSpec)

/-- ITS FALSE NEIGHBOUR: 'it returns false'. Refute it at one input. -/
def rexMatchesWrong : ChangeSpec := { name := "rexMatches", fn := fun _ => fun
  | [d1, d2] => { results := [.lit (.bool false)], args := [d1, d2] }
  | _ => none }
def RexMatchesWrongFalsely : Prop := rexMatchesRow.holds Try.pinned (OpenSpec.ofChange rexMatchesWrong)

/- THE SECOND FORM. 'bulk': how many values and letters a reading holds, each counted each time it is reached (what is shared counts as often as it is met; a slice's spare places count too). A statement '..UptoSaid' is the law's where the arguments, and the package variables that the reading takes, are together of bulk at most 1048576: NARROWER than '..Said'. Prove '..Said' where nothing that the law and all that it calls make is longer than what came in: it says more and counts as full. Else prove '..UptoSaid'. A law counts once. -/
mutual
def uptoBulk {H : Type} : DataW H → Nat
  | .lit (.string bytes) => bytes.length + 1
  | .lit _ => 1
  | .nil => 1
  | .ptr d => uptoBulk d + 1
  | .slice elems spare => uptoBulkAll elems + uptoBulkAll spare + 1
  | .agg parts => uptoBulkAll parts + 1
  | .iface _ d => uptoBulk d + 1
  | .map entries => uptoBulkEntries entries + 1
  | .held _ => 1
def uptoBulkAll {H : Type} : List (DataW H) → Nat
  | [] => 0
  | d :: r => uptoBulk d + uptoBulkAll r
def uptoBulkEntries {H : Type} : List (Lit × DataW H) → Nat
  | [] => 0
  | x :: r => uptoBulkEntry x + uptoBulkEntries r
def uptoBulkEntry {H : Type} : Lit × DataW H → Nat
  | (.string bytes, d) => bytes.length + uptoBulk d + 1
  | (_, d) => uptoBulk d + 1
 end
def uptoSmall : (H : Type) → List (DataW H) → Bool := fun _ ds => decide (uptoBulkAll ds ≤ 1048576)
def OpenSpec.upto (s : _root_.Go.ChangeSpec) : _root_.Go.OpenSpec := { _root_.Go.OpenSpec.ofChange s with cond := some uptoSmall }

/-- 'manometerlaw09.PointsStays', WHERE WHAT IT READS IS OF BULK AT MOST 1048576: true; the input reads as it did. -/
def pointsStaysUptoRow : OpenClaim := { program := "ytfohmepjedehfab", sum := "a9bd8a10938ad76a1edb6db2f05b85d79511ddf96a2cf998a078634a58a8dfa8", func := "manometer/manometerlaw09.PointsStays", spec := "pointsStays", unfollowed := true, recurses := true, apart := false, narrowed := true }
def PointsStaysUptoSaid : Prop := pointsStaysUptoRow.holds Try.pinned (OpenSpec.upto pointsStaysSpec)

/-- 'manometerlaw09.PointsParts', WHERE WHAT IT READS IS OF BULK AT MOST 1048576: true; the input reads as it did. -/
def pointsPartsUptoRow : OpenClaim := { program := "ytfohmepjedehfab", sum := "a9bd8a10938ad76a1edb6db2f05b85d79511ddf96a2cf998a078634a58a8dfa8", func := "manometer/manometerlaw09.PointsParts", spec := "pointsParts", unfollowed := true, recurses := true, apart := false, narrowed := true }
def PointsPartsUptoSaid : Prop := pointsPartsUptoRow.holds Try.pinned (OpenSpec.upto pointsPartsSpec)

/-- 'manometerlaw09.PointsPartly', WHERE WHAT IT READS IS OF BULK AT MOST 1048576: true; the input reads as it did. -/
def pointsPartlyUptoRow : OpenClaim := { program := "ytfohmepjedehfab", sum := "a9bd8a10938ad76a1edb6db2f05b85d79511ddf96a2cf998a078634a58a8dfa8", func := "manometer/manometerlaw09.PointsPartly", spec := "pointsPartly", unfollowed := true, recurses := true, apart := false, narrowed := true }
def PointsPartlyUptoSaid : Prop := pointsPartlyUptoRow.holds Try.pinned (OpenSpec.upto pointsPartlySpec)

/-- 'manometerlaw06.RexMatches', WHERE WHAT IT READS IS OF BULK AT MOST 1048576: true; the input reads as it did. -/
def rexMatchesUptoRow : OpenClaim := { program := "ytfohmepjedehfab", sum := "a9bd8a10938ad76a1edb6db2f05b85d79511ddf96a2cf998a078634a58a8dfa8", func := "manometer/manometerlaw06.RexMatches", spec := "rexMatches", inPlace := ["internal/bytealg.IndexByteString", "internal/bytealg.IndexString", "internal/abi.NoEscape", "internal/bytealg.MakeNoZero"], unfollowed := true, recurses := true, named := ["internal/bytealg.MaxLen"], apart := false, narrowed := true }
def RexMatchesUptoSaid : Prop := rexMatchesUptoRow.holds Try.pinned (OpenSpec.upto rexMatchesSpec)

end Rows
end Go.Proofs.Ytfohmepjedehfab
