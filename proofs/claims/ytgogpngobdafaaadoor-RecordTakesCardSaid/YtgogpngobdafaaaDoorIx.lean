/-
  A text's bytes by their places.
-/
import Derived.Test.YtgogpngobdafaaaDoorGen
import Derived.Test.YtgogpngobdafaaaDoorLb
namespace Go.Proofs.YtgogpngobdafaaaDoor
set_option linter.unusedVariables false
set_option linter.unusedSimpArgs false
open Go.RowKit
theorem size_zero {s : ByteArray} (h : s.size = 0) : s = ⟨#[]⟩ := by
  cases s with | mk a => simp [ByteArray.size] at h; subst h; rfl
/-- A text that is not empty, as the walk asks it. -/
theorem ne_empty {s : ByteArray} (h : ¬ s.size = 0) : ¬ s.toList = [] ∧ s.toList.isEmpty = false := by
  have : ¬ s.toList = [] := by
    rw [toList_bl]; intro e; apply h; rw [← bl_len, e]; rfl
  exact ⟨this, by cases hl : s.toList with | nil => exact absurd hl this | cons _ _ => rfl⟩
theorem get_bl (s : ByteArray) {i : Nat} (h : i < s.size) : s[i]'h = (bl s)[i]'(by rw [bl_len]; exact h) := by
  cases s; rfl
/-- A text's byte, behind a word of its own. -/
def byN (s : ByteArray) (k : Nat) : Nat := ((bl s).getD k 0).toNat
theorem byN_lt (s : ByteArray) (k : Nat) : byN s k < 256 := UInt8.toNat_lt _
theorem run_index_s (w : World) (s : ByteArray) (k : IntKind) (d : Nat) (hd : d < s.size) :
    (Instr.index 9 (.string s) (.int k (d : Nat))).run Tryd.prog w = .ok (.int .u8 (byN s d : Nat)) w := by
  have hs : s[d]? = some ((bl s).getD d 0) := by
    show (if h : d < s.size then some s[d] else none) = _
    rw [dif_pos hd, get_bl s hd]
    simp [List.getD, bl_len, hd]
  unfold byN
  simp [Instr.index, asIntOf, run_underlying Tryd.underlying9, hs]
theorem drop_byte {s : ByteArray} {k : Nat} (h : k < s.size) : (bl s).drop k = UInt8.ofNat (byN s k) :: (bl s).drop (k + 1) := by
  have h' : k < (bl s).length := by rw [bl_len]; exact h
  rw [List.drop_eq_getElem_cons h']
  congr 1
  simp [byN, List.getD, h']
end Go.Proofs.YtgogpngobdafaaaDoor
