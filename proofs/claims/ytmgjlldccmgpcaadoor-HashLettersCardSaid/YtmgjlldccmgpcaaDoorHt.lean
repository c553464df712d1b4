/-
  The table of what rounds add: from what the row lays to the cells; a world for the witnesses.
-/
import Derived.Test.YtmgjlldccmgpcaaDoorHl
import Derived.Test.YtmgjlldccmgpcaaDoorLaw
import Derived.Test.YtmgjlldccmgpcaaDoorCards
import Derived.Test.YtmgjlldccmgpcaaDoorTie
import Derived.Deep.DeepHandedRow
import Derived.Lib.LaidTab
namespace Go.Proofs.YtmgjlldccmgpcaaDoor
set_option linter.unusedVariables false
set_option linter.unusedSimpArgs false
open Go.ChangeShapes Go.WideShapes Go.ChangeAt Go.RowKit

theorem tabGlobal : Tryd.prog.globalNamed "manometer/hash.adds" = some 0 := by kernel_rfl
theorem tabType : (Tryd.prog.globals[0]?).map (·.type) = some 84 := by kernel_rfl
theorem tabCells : Tryd.prog.cellsOf 84 = 64 := by kernel_rfl
theorem cellsU32 : Tryd.prog.cellsOf 53 = 1 := by kernel_rfl
theorem kL_length : kL.length = 64 := by decide
theorem table {W : World} (h : laidMetH Tryd.prog [("manometer/hash.adds", Rows.laid_manometer_hash_adds)] W) : AddsMet W := fun i hi => by
  have t : Lib.TabIs Tryd.prog W "manometer/hash.adds" .u32 (kL.map Int.ofNat) := Lib.tabIs_of_head (rest := []) tabGlobal tabType Tryd.underlying84 Tryd.underlying53 cellsU32 tabCells h
  have c := t.cell tabGlobal i (by rw [List.length_map, kL_length]; exact hi)
  rw [c]
  congr 2
  rw [List.getD_eq_getElem?_getD, List.getD_eq_getElem?_getD, List.getElem?_map]
  cases kL[i]? <;> rfl

/-- A world for the witness: the settled one, the table holding what its initialiser lays. -/
noncomputable def laidWorld (os : Os) : World :=
  { World.holding Tryd.prog os ⟨#[], #[], []⟩ with heap := (World.holding Tryd.prog os ⟨#[], #[], []⟩).heap.modify 0 fun
      | .cells _ t frozen => .cells #[.int .u32 1116352408, .int .u32 1899447441, .int .u32 3049323471, .int .u32 3921009573, .int .u32 961987163, .int .u32 1508970993, .int .u32 2453635748, .int .u32 2870763221, .int .u32 3624381080, .int .u32 310598401, .int .u32 607225278, .int .u32 1426881987, .int .u32 1925078388, .int .u32 2162078206, .int .u32 2614888103, .int .u32 3248222580, .int .u32 3835390401, .int .u32 4022224774, .int .u32 264347078, .int .u32 604807628, .int .u32 770255983, .int .u32 1249150122, .int .u32 1555081692, .int .u32 1996064986, .int .u32 2554220882, .int .u32 2821834349, .int .u32 2952996808, .int .u32 3210313671, .int .u32 3336571891, .int .u32 3584528711, .int .u32 113926993, .int .u32 338241895, .int .u32 666307205, .int .u32 773529912, .int .u32 1294757372, .int .u32 1396182291, .int .u32 1695183700, .int .u32 1986661051, .int .u32 2177026350, .int .u32 2456956037, .int .u32 2730485921, .int .u32 2820302411, .int .u32 3259730800, .int .u32 3345764771, .int .u32 3516065817, .int .u32 3600352804, .int .u32 4094571909, .int .u32 275423344, .int .u32 430227734, .int .u32 506948616, .int .u32 659060556, .int .u32 883997877, .int .u32 958139571, .int .u32 1322822218, .int .u32 1537002063, .int .u32 1747873779, .int .u32 1955562222, .int .u32 2024104815, .int .u32 2227730452, .int .u32 2361852424, .int .u32 2428436474, .int .u32 2756734187, .int .u32 3204031479, .int .u32 3329325298] t frozen
      | o => o }
end Go.Proofs.YtmgjlldccmgpcaaDoor
