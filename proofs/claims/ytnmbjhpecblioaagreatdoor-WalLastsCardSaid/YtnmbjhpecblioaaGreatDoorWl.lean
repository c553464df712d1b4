/-
  The tables and the two errors: from what the rows lay to what the walks ask; a world for the witnesses.
-/
import Derived.Lay
import Derived.MakeChecks
import Derived.LaidSub
import Derived.Stop.LaidErr
import Derived.Deep.DeepWitnessRowRef
import Derived.Deep.DeepHandedRow
import Derived.Lib.LaidTab
import Derived.Test.YtnmbjhpecblioaaGreatDoorWt
import Derived.Test.YtnmbjhpecblioaaGreatDoorLaw
import Derived.Test.YtnmbjhpecblioaaGreatDoorCards
import Derived.Test.YtnmbjhpecblioaaGreatDoorTie
namespace Go.Proofs.YtnmbjhpecblioaaGreatDoor
set_option linter.unusedVariables false
set_option linter.unusedSimpArgs false
open Go.ChangeShapes Go.WideShapes Go.ChangeAt Go.RowKit
abbrev wlaid : List (String × DataW Unit) := [("math/bits.deBruijn32tab", Rows.laid_math_bits_deBruijn32tab), ("math/bits.deBruijn64tab", Rows.laid_math_bits_deBruijn64tab), ("internal/strconv.uint64pow10", Rows.laid_internal_strconv_uint64pow10), ("strconv.ErrRange", Rows.laid_strconv_ErrRange), ("strconv.ErrSyntax", Rows.laid_strconv_ErrSyntax), ("manometer/frame.steps", Rows.laid_manometer_frame_steps)]
theorem rowErr : ∀ u, Tryz.prog.typeName? 3 u = some "*errors.errorString" → u = 198 :=
  typeName_ptr_named (nm := "errors.errorString") (by kernel_rfl) (by kernel_rfl) (by decide)
theorem wtables {W : World} (h : laidMetH Tryz.prog wlaid W) : TabW W := by
  have h1 : laidMet Tryz.prog [("manometer/frame.steps", Rows.laid_manometer_frame_steps)] W := by
    have := h.filter (fun x => x.1 == "manometer/frame.steps")
    rwa [MakeChecks.laidMetH_plain _ _ _ (by kernel_rfl), show wlaid.filter (fun x => x.1 == "manometer/frame.steps") = [("manometer/frame.steps", Rows.laid_manometer_frame_steps)] from by kernel_rfl] at this
  have h2 : laidMet Tryz.prog [("internal/strconv.uint64pow10", Rows.laid_internal_strconv_uint64pow10)] W := by
    have := h.filter (fun x => x.1 == "internal/strconv.uint64pow10")
    rwa [MakeChecks.laidMetH_plain _ _ _ (by kernel_rfl), show wlaid.filter (fun x => x.1 == "internal/strconv.uint64pow10") = [("internal/strconv.uint64pow10", Rows.laid_internal_strconv_uint64pow10)] from by kernel_rfl] at this
  have h3 : laidMet Tryz.prog [("strconv.ErrSyntax", Rows.laid_strconv_ErrSyntax)] W := by
    have := h.filter (fun x => x.1 == "strconv.ErrSyntax")
    rwa [MakeChecks.laidMetH_plain _ _ _ (by kernel_rfl), show wlaid.filter (fun x => x.1 == "strconv.ErrSyntax") = [("strconv.ErrSyntax", Rows.laid_strconv_ErrSyntax)] from by kernel_rfl] at this
  have h4 : laidMet Tryz.prog [("strconv.ErrRange", Rows.laid_strconv_ErrRange)] W := by
    have := h.filter (fun x => x.1 == "strconv.ErrRange")
    rwa [MakeChecks.laidMetH_plain _ _ _ (by kernel_rfl), show wlaid.filter (fun x => x.1 == "strconv.ErrRange") = [("strconv.ErrRange", Rows.laid_strconv_ErrRange)] from by kernel_rfl] at this
  obtain ⟨a3, s3, hv3, -⟩ := laid_sentinel h3 (g := 3) (ti := 116) (tp := 198) (te := 200) (ts := 9) (by kernel_rfl) (by kernel_rfl) Tryz.underlying116 rowErr Tryz.underlying198 Tryz.underlying200 rfl rfl Tryz.underlying9 (by kernel_rfl) (by kernel_rfl)
  obtain ⟨a4, s4, hv4, -⟩ := laid_sentinel h4 (g := 4) (ti := 116) (tp := 198) (te := 200) (ts := 9) (by kernel_rfl) (by kernel_rfl) Tryz.underlying116 rowErr Tryz.underlying198 Tryz.underlying200 rfl rfl Tryz.underlying9 (by kernel_rfl) (by kernel_rfl)
  refine ⟨fun i hi => ?_, ?_, ⟨_, _, hv3⟩, _, _, hv4⟩
  · have t : Lib.TabIs Tryz.prog W "manometer/frame.steps" .u32 (stepsL.map Int.ofNat) := Lib.tabIs_of_head (rest := []) (g := 0) (t := 173) (by kernel_rfl) (by kernel_rfl) Tryz.underlying173 Tryz.underlying127 (by kernel_rfl) (by kernel_rfl) h1
    have c := t.cell (g := 0) (by kernel_rfl) i (by simpa [stepsL] using hi)
    rw [c]
    congr 2
    rw [List.getD_eq_getElem?_getD, List.getD_eq_getElem?_getD, List.getElem?_map]
    cases stepsL[i]? <;> rfl
  · exact Lib.tabIs_of_head (rest := []) (g := 1) (t := 175) (by kernel_rfl) (by kernel_rfl) Tryz.underlying175 Tryz.underlying125 (by kernel_rfl) (by kernel_rfl) h2
/-- A world for the witnesses. -/
noncomputable def wworld (os : Os) : World := World.laidAll Tryz.prog os wlaid
theorem wworld_met (os : Os) (args : Array Value) : laidMet Tryz.prog wlaid ((wworld os).forCall (fun _ _ => 0) ⟨#[], args, []⟩).memory := laidMet_laidAll args (by kernel_rfl) (by kernel_rfl)
end Go.Proofs.YtnmbjhpecblioaaGreatDoor
