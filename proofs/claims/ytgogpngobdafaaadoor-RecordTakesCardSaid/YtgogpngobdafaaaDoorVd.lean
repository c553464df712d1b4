/-
  Valued, and the library's tables by which it tells valid UTF-8.
-/
import Derived.Test.YtgogpngobdafaaaDoorLb
import Derived.Test.YtgogpngobdafaaaDoorGen
import Derived.Test.YtgogpngobdafaaaDoorShelf3
namespace Go.Proofs.YtgogpngobdafaaaDoor
set_option linter.unusedVariables false
set_option linter.unusedSimpArgs false
open Go.RowKit
/-- The library's two tables by which it tells valid UTF-8. -/
def Tabs (w : World) : Prop := Lib.Utf8Tabs 1 2 w
theorem Tabs.below {w w' : World} (h : Tabs w) (hb : RowKit.Below w.heap.size w w') : Tabs w' := Utf8Tabs_below h hb
section
set_option maxHeartbeats 1600000
set_option maxRecDepth 100000
theorem valued_any (s : ByteArray) (w : World) (hT : Tabs w) (hl : s.size ≤ 1000000) : Calls Tryd.prog 121 #[.string s] w fun e w' => e = .returned (.bool (valuedP (bl s))) ∧ Below w.heap.size w w' := by
  have hc := Any.utf8_ValidString Tryd.validL s w (by omega) hT
  have hc2 : Calls Tryd.prog 129 #[.string s] w fun e w' => e = .returned (.bool (Lib.validD (bl s))) ∧ Below w.heap.size w w' := hc
  unfold valuedP
  rw [bl_len]
  generalize Lib.validD (bl s) = V at hc2 ⊢
  have HC := Lib.hid hc2; clear hc hc2 hT
  by_cases h : s.size ≤ 128
  · have hz : (s.size : Int) ≤ 128 := by omega
    rw [decide_eq_true h, Bool.true_and]
    go_enter Tryd.func121, Tryd.ntmps121
    go_wp2_with (first | (go_at_call 129; refine HC.out.mono ?_; rintro e w1 ⟨rfl, hb⟩) | fail)
    go_ret
    exact ⟨rfl, hb⟩
  · have hz : ¬ (s.size : Int) ≤ 128 := by omega
    rw [decide_eq_false h, Bool.false_and]
    go_enter Tryd.func121, Tryd.ntmps121
    go_wp2
    go_ret
    exact ⟨rfl, Below.refl _ _⟩
end
end Go.Proofs.YtgogpngobdafaaaDoor
