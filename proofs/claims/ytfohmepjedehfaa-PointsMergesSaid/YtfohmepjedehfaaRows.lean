/-
  No cell of these rows narrows 'for every input' (looked for: loops, veiled, ifaces, maps, wideKeys, modest, calm, conditions, laid).
  DERIVED. THE GIVEN ROWS OF THIS SEAT. 6 by the template 'for every input the law returns true; each argument reads behind the call as it read before'; 0 by the template 'total and deterministic' (their statements: YtfohmepjedehfaaTotals.lean).
  GIVEN WITH THE SEED: the statements are not yours to turn. If you find one false, say at which input.
  Laid BY PROGRAM, IN A SANDBOX (cutbox-rows.mjs): the forced cells as the released guide's own fill.sh prints them over the translation 2ace20ebc7aa32f8… (all of the seat's roots in one cut). By AI agents, Wed Nov 11 2026. No macro, syntax, notation, axiom, sorry.
-/
import Derived.Test.YtfohmepjedehfaaChecked
import GoSem.Claim
import GoSem.ClaimJoined
import GoSem.ClaimMapViews
import Derived.JoinedTies
import Derived.KernelRfl
namespace Go.Proofs.Ytfohmepjedehfaa
/- THE CELL 'sum', in the pinned program and in every row, IS THE sha256 OF THE DUMP (.gsa) THAT YtfohmepjedehfaaProg.lean LOADS. Nothing in Lean hashes anything: it is a label: what it is worth is what the hold of that sum in a sandbox is worth. -/
noncomputable def Try.pinned : Pinned := { name := "ytfohmepjedehfaa", sum := "2ace20ebc7aa32f80380520cb140e9242ad1e8bd479ae31db5562438b745f708", checked := Try.checked }
namespace Rows
def none {H : Type} : Left H := { results := [], args := [] }

/-- 'manometerlaw09.PointsRights': WHATEVER THE INPUT: true; the input reads as it did. -/
def pointsRightsSpec : ChangeSpec := { name := "pointsRights", fn := fun _ => fun
  | [d1, d2, d3] => { results := [.lit (.bool true)], args := [d1, d2, d3] }
  | _ => none }
def pointsRightsRow : OpenClaim := { program := "ytfohmepjedehfaa", sum := "2ace20ebc7aa32f80380520cb140e9242ad1e8bd479ae31db5562438b745f708", func := "manometer/manometerlaw09.PointsRights", spec := "pointsRights", unfollowed := true, recurses := true, apart := false }
def PointsRightsSaid : Prop := pointsRightsRow.holds Try.pinned (OpenSpec.ofChange pointsRightsSpec)

/-- ITS FALSE NEIGHBOUR: 'it returns false'. Refute it at one input. -/
def pointsRightsWrong : ChangeSpec := { name := "pointsRights", fn := fun _ => fun
  | [d1, d2, d3] => { results := [.lit (.bool false)], args := [d1, d2, d3] }
  | _ => none }
def PointsRightsWrongFalsely : Prop := pointsRightsRow.holds Try.pinned (OpenSpec.ofChange pointsRightsWrong)

/-- 'manometerlaw09.PointsFinds': WHATEVER THE INPUT: true; the input reads as it did. -/
def pointsFindsSpec : ChangeSpec := { name := "pointsFinds", fn := fun _ => fun
  | [d1, d2] => { results := [.lit (.bool true)], args := [d1, d2] }
  | _ => none }
def pointsFindsRow : OpenClaim := { program := "ytfohmepjedehfaa", sum := "2ace20ebc7aa32f80380520cb140e9242ad1e8bd479ae31db5562438b745f708", func := "manometer/manometerlaw09.PointsFinds", spec := "pointsFinds", unfollowed := true, recurses := true, apart := false }
def PointsFindsSaid : Prop := pointsFindsRow.holds Try.pinned (OpenSpec.ofChange pointsFindsSpec)

/-- ITS FALSE NEIGHBOUR: 'it returns false'. Refute it at one input. -/
def pointsFindsWrong : ChangeSpec := { name := "pointsFinds", fn := fun _ => fun
  | [d1, d2] => { results := [.lit (.bool false)], args := [d1, d2] }
  | _ => none }
def PointsFindsWrongFalsely : Prop := pointsFindsRow.holds Try.pinned (OpenSpec.ofChange pointsFindsWrong)

/-- 'manometerlaw09.PointsPuts': WHATEVER THE INPUT: true; the input reads as it did. -/
def pointsPutsSpec : ChangeSpec := { name := "pointsPuts", fn := fun _ => fun
  | [d1, d2] => { results := [.lit (.bool true)], args := [d1, d2] }
  | _ => none }
def pointsPutsRow : OpenClaim := { program := "ytfohmepjedehfaa", sum := "2ace20ebc7aa32f80380520cb140e9242ad1e8bd479ae31db5562438b745f708", func := "manometer/manometerlaw09.PointsPuts", spec := "pointsPuts", unfollowed := true, recurses := true, apart := false }
def PointsPutsSaid : Prop := pointsPutsRow.holds Try.pinned (OpenSpec.ofChange pointsPutsSpec)

/-- ITS FALSE NEIGHBOUR: 'it returns false'. Refute it at one input. -/
def pointsPutsWrong : ChangeSpec := { name := "pointsPuts", fn := fun _ => fun
  | [d1, d2] => { results := [.lit (.bool false)], args := [d1, d2] }
  | _ => none }
def PointsPutsWrongFalsely : Prop := pointsPutsRow.holds Try.pinned (OpenSpec.ofChange pointsPutsWrong)

/-- 'manometerlaw09.PointsMerges': WHATEVER THE INPUT: true; the input reads as it did. -/
def pointsMergesSpec : ChangeSpec := { name := "pointsMerges", fn := fun _ => fun
  | [d1, d2] => { results := [.lit (.bool true)], args := [d1, d2] }
  | _ => none }
def pointsMergesRow : OpenClaim := { program := "ytfohmepjedehfaa", sum := "2ace20ebc7aa32f80380520cb140e9242ad1e8bd479ae31db5562438b745f708", func := "manometer/manometerlaw09.PointsMerges", spec := "pointsMerges", unfollowed := true, recurses := true, apart := false }
def PointsMergesSaid : Prop := pointsMergesRow.holds Try.pinned (OpenSpec.ofChange pointsMergesSpec)

/-- ITS FALSE NEIGHBOUR: 'it returns false'. Refute it at one input. -/
def pointsMergesWrong : ChangeSpec := { name := "pointsMerges", fn := fun _ => fun
  | [d1, d2] => { results := [.lit (.bool false)], args := [d1, d2] }
  | _ => none }
def PointsMergesWrongFalsely : Prop := pointsMergesRow.holds Try.pinned (OpenSpec.ofChange pointsMergesWrong)

/-- 'manometerlaw09.PointsOrder': WHATEVER THE INPUT: true; the input reads as it did. -/
def pointsOrderSpec : ChangeSpec := { name := "pointsOrder", fn := fun _ => fun
  | [d1, d2, d3] => { results := [.lit (.bool true)], args := [d1, d2, d3] }
  | _ => none }
def pointsOrderRow : OpenClaim := { program := "ytfohmepjedehfaa", sum := "2ace20ebc7aa32f80380520cb140e9242ad1e8bd479ae31db5562438b745f708", func := "manometer/manometerlaw09.PointsOrder", spec := "pointsOrder", unfollowed := true, recurses := true, apart := false }
def PointsOrderSaid : Prop := pointsOrderRow.holds Try.pinned (OpenSpec.ofChange pointsOrderSpec)

/-- ITS FALSE NEIGHBOUR: 'it returns false'. Refute it at one input. -/
def pointsOrderWrong : ChangeSpec := { name := "pointsOrder", fn := fun _ => fun
  | [d1, d2, d3] => { results := [.lit (.bool false)], args := [d1, d2, d3] }
  | _ => none }
def PointsOrderWrongFalsely : Prop := pointsOrderRow.holds Try.pinned (OpenSpec.ofChange pointsOrderWrong)

/-- 'manometerlaw09.PointsFolds': WHATEVER THE INPUT: true; the input reads as it did. -/
def pointsFoldsSpec : ChangeSpec := { name := "pointsFolds", fn := fun _ => fun
  | [d1, d2] => { results := [.lit (.bool true)], args := [d1, d2] }
  | _ => none }
def pointsFoldsRow : OpenClaim := { program := "ytfohmepjedehfaa", sum := "2ace20ebc7aa32f80380520cb140e9242ad1e8bd479ae31db5562438b745f708", func := "manometer/manometerlaw09.PointsFolds", spec := "pointsFolds", unfollowed := true, recurses := true, apart := false }
def PointsFoldsSaid : Prop := pointsFoldsRow.holds Try.pinned (OpenSpec.ofChange pointsFoldsSpec)

/-- ITS FALSE NEIGHBOUR: 'it returns false'. Refute it at one input. -/
def pointsFoldsWrong : ChangeSpec := { name := "pointsFolds", fn := fun _ => fun
  | [d1, d2] => { results := [.lit (.bool false)], args := [d1, d2] }
  | _ => none }
def PointsFoldsWrongFalsely : Prop := pointsFoldsRow.holds Try.pinned (OpenSpec.ofChange pointsFoldsWrong)

/- THE SECOND FORM. 'bulk': how many values and letters a reading holds, each counted each time it is reached (what is shared counts as often as it is met; a slice's spare places count too). A statement '..UptoSaid' is the law's where the arguments, and the package variables that the reading takes, are together of bulk at most 1048576: NARROWER than '..Said'. Prove '..Said' where nothing that the law and all that it calls make is longer than what came in: it says more and counts as full. Else prove '..UptoSaid'. A law counts once. -/
mutual
def uptoBulk {H : Type} : DataW H → Nat
  | .lit (.string bytes) => bytes.length + 1
  | .lit _ => 1
  | .nil => 1
  | .ptr d => uptoBulk d + 1
  | .slice elems spare => uptoBulkAll elems + uptoBulkAll spare + 1
  | .agg parts => uptoBulkAll parts + 1
  | .iface _ d => uptoBulk d + 1
  | .map entries => uptoBulkEntries entries + 1
  | .held _ => 1
def uptoBulkAll {H : Type} : List (DataW H) → Nat
  | [] => 0
  | d :: r => uptoBulk d + uptoBulkAll r
def uptoBulkEntries {H : Type} : List (Lit × DataW H) → Nat
  | [] => 0
  | x :: r => uptoBulkEntry x + uptoBulkEntries r
def uptoBulkEntry {H : Type} : Lit × DataW H → Nat
  | (.string bytes, d) => bytes.length + uptoBulk d + 1
  | (_, d) => uptoBulk d + 1
 end
def uptoSmall : (H : Type) → List (DataW H) → Bool := fun _ ds => decide (uptoBulkAll ds ≤ 1048576)
def OpenSpec.upto (s : _root_.Go.ChangeSpec) : _root_.Go.OpenSpec := { _root_.Go.OpenSpec.ofChange s with cond := some uptoSmall }

/-- 'manometerlaw09.PointsRights', WHERE WHAT IT READS IS OF BULK AT MOST 1048576: true; the input reads as it did. -/
def pointsRightsUptoRow : OpenClaim := { program := "ytfohmepjedehfaa", sum := "2ace20ebc7aa32f80380520cb140e9242ad1e8bd479ae31db5562438b745f708", func := "manometer/manometerlaw09.PointsRights", spec := "pointsRights", unfollowed := true, recurses := true, apart := false, narrowed := true }
def PointsRightsUptoSaid : Prop := pointsRightsUptoRow.holds Try.pinned (OpenSpec.upto pointsRightsSpec)

/-- 'manometerlaw09.PointsFinds', WHERE WHAT IT READS IS OF BULK AT MOST 1048576: true; the input reads as it did. -/
def pointsFindsUptoRow : OpenClaim := { program := "ytfohmepjedehfaa", sum := "2ace20ebc7aa32f80380520cb140e9242ad1e8bd479ae31db5562438b745f708", func := "manometer/manometerlaw09.PointsFinds", spec := "pointsFinds", unfollowed := true, recurses := true, apart := false, narrowed := true }
def PointsFindsUptoSaid : Prop := pointsFindsUptoRow.holds Try.pinned (OpenSpec.upto pointsFindsSpec)

/-- 'manometerlaw09.PointsPuts', WHERE WHAT IT READS IS OF BULK AT MOST 1048576: true; the input reads as it did. -/
def pointsPutsUptoRow : OpenClaim := { program := "ytfohmepjedehfaa", sum := "2ace20ebc7aa32f80380520cb140e9242ad1e8bd479ae31db5562438b745f708", func := "manometer/manometerlaw09.PointsPuts", spec := "pointsPuts", unfollowed := true, recurses := true, apart := false, narrowed := true }
def PointsPutsUptoSaid : Prop := pointsPutsUptoRow.holds Try.pinned (OpenSpec.upto pointsPutsSpec)

/-- 'manometerlaw09.PointsMerges', WHERE WHAT IT READS IS OF BULK AT MOST 1048576: true; the input reads as it did. -/
def pointsMergesUptoRow : OpenClaim := { program := "ytfohmepjedehfaa", sum := "2ace20ebc7aa32f80380520cb140e9242ad1e8bd479ae31db5562438b745f708", func := "manometer/manometerlaw09.PointsMerges", spec := "pointsMerges", unfollowed := true, recurses := true, apart := false, narrowed := true }
def PointsMergesUptoSaid : Prop := pointsMergesUptoRow.holds Try.pinned (OpenSpec.upto pointsMergesSpec)

/-- 'manometerlaw09.PointsOrder', WHERE WHAT IT READS IS OF BULK AT MOST 1048576: true; the input reads as it did. -/
def pointsOrderUptoRow : OpenClaim := { program := "ytfohmepjedehfaa", sum := "2ace20ebc7aa32f80380520cb140e9242ad1e8bd479ae31db5562438b745f708", func := "manometer/manometerlaw09.PointsOrder", spec := "pointsOrder", unfollowed := true, recurses := true, apart := false, narrowed := true }
def PointsOrderUptoSaid : Prop := pointsOrderUptoRow.holds Try.pinned (OpenSpec.upto pointsOrderSpec)

/-- 'manometerlaw09.PointsFolds', WHERE WHAT IT READS IS OF BULK AT MOST 1048576: true; the input reads as it did. -/
def pointsFoldsUptoRow : OpenClaim := { program := "ytfohmepjedehfaa", sum := "2ace20ebc7aa32f80380520cb140e9242ad1e8bd479ae31db5562438b745f708", func := "manometer/manometerlaw09.PointsFolds", spec := "pointsFolds", unfollowed := true, recurses := true, apart := false, narrowed := true }
def PointsFoldsUptoSaid : Prop := pointsFoldsUptoRow.holds Try.pinned (OpenSpec.upto pointsFoldsSpec)

end Rows
end Go.Proofs.Ytfohmepjedehfaa
