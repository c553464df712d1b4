/-
  The table of steps: from what the row lays to the cells; a world for the witnesses.
-/
import Derived.Test.YtnbgpmgcnfhfeaaDoorFv
import Derived.Test.YtnbgpmgcnfhfeaaDoorLaw
import Derived.Test.YtnbgpmgcnfhfeaaDoorCards
import Derived.Test.YtnbgpmgcnfhfeaaDoorTie
import Derived.Deep.DeepHandedRow
import Derived.Lib.LaidTab
namespace Go.Proofs.YtnbgpmgcnfhfeaaDoor
set_option linter.unusedVariables false
set_option linter.unusedSimpArgs false
open Go.ChangeShapes Go.WideShapes Go.ChangeAt Go.RowKit

theorem tabGlobal : Tryd.prog.globalNamed "manometer/frame.steps" = some 0 := by kernel_rfl
theorem tabType : (Tryd.prog.globals[0]?).map (·.type) = some 51 := by kernel_rfl
theorem tabCells : Tryd.prog.cellsOf 51 = 16 := by kernel_rfl
theorem cellsU32 : Tryd.prog.cellsOf 22 = 1 := by kernel_rfl
theorem table {W : World} (h : laidMetH Tryd.prog [("manometer/frame.steps", Rows.laid_manometer_frame_steps)] W) : StepsMet W := fun i hi => by
  have t : Lib.TabIs Tryd.prog W "manometer/frame.steps" .u32 (stepsL.map Int.ofNat) := Lib.tabIs_of_head (rest := []) tabGlobal tabType Tryd.underlying51 Tryd.underlying22 cellsU32 tabCells h
  have c := t.cell tabGlobal i (by simpa [stepsL] using hi)
  rw [c]
  congr 2
  rw [List.getD_eq_getElem?_getD, List.getD_eq_getElem?_getD, List.getElem?_map]
  cases stepsL[i]? <;> rfl

/-- A world for the witness: the settled one, the table holding what its initialiser lays. -/
noncomputable def laidWorld (os : Os) : World :=
  { World.holding Tryd.prog os ⟨#[], #[], []⟩ with heap := (World.holding Tryd.prog os ⟨#[], #[], []⟩).heap.modify 0 fun
      | .cells _ t frozen => .cells #[.int .u32 0, .int .u32 274646895, .int .u32 549293790, .int .u32 820201905, .int .u32 1098587580, .int .u32 1361435347, .int .u32 1640403810, .int .u32 1905808397, .int .u32 2197175160, .int .u32 2460548119, .int .u32 2722870694, .int .u32 2987750089, .int .u32 3280807620, .int .u32 3553878443, .int .u32 3811616794, .int .u32 4084100981] t frozen
      | o => o }
end Go.Proofs.YtnbgpmgcnfhfeaaDoor
