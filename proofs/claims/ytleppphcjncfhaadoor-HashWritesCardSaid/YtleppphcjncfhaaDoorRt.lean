/-
  The plain answers' SHA-256: the table.
-/
import Derived.Test.YtleppphcjncfhaaDoorRv
import Derived.Test.YtleppphcjncfhaaDoorKn
namespace Go.Proofs.YtleppphcjncfhaaDoor
set_option linter.unusedVariables false
set_option linter.unusedSimpArgs false
open Go.RowKit

/-- The table's cells. -/
def tabC : List Value := kL.map fun n => .int .u32 (n : Nat)
theorem tabC_length : tabC.length = 64 := by unfold tabC; rw [List.length_map]; decide
theorem tabC_one : ∀ v ∈ tabC, v.oneCell' = true := by intro v hv; obtain ⟨x, _, rfl⟩ := List.mem_map.1 hv; rfl
theorem tabC_get (k : Nat) (h : k < 64) : tabC[k]? = some (.int .u32 (kL.getD k 0 : Nat)) := by
  have hl : kL.length = 64 := by decide
  unfold tabC
  rw [List.getElem?_map, List.getD_eq_getElem?_getD, List.getElem?_eq_getElem (by omega)]
  rfl
section
set_option maxHeartbeats 3200000
set_option maxRecDepth 100000
theorem table_any (w : World) : Calls Tryd.prog 61 #[] w fun e w' => e = .returned (.agg tabC.toArray) ∧ Below w.heap.size w w' := by
  go_enter Tryd.func61, Tryd.ntmps61
  go_wp2_with (first
    | (refine wpList_store_agg (o := ⟨none, _, _, _, _, _⟩) ?_ 84 (.tmp 0) (.tmp 1) ?_ w.heap.size 0 tabC ?_ ?_ 84 _ (heap_alloc_new w _) ?_ ?_ tabC_one ?_; rfl; rfl; rfl; kernel_rfl; (rw [tabC_length]; kernel_rfl); (rw [tabC_length]; decide); intro w7 hg7 hm7 hs7)
    | fail)
  obtain ⟨hg8, hb8, hz8⟩ := fresh_store hg7 hm7 hs7 tabC_length
  have HG8 := Lib.hid hg8; clear hg8 hg7 hs7
  exact bodyPost_cell rfl w.heap.size 84 tabC.toArray rfl HG8.out (by kernel_rfl) (by rw [List.size_toArray, tabC_length]; kernel_rfl) rfl ⟨rfl, hb8⟩
end
end Go.Proofs.YtleppphcjncfhaaDoor
