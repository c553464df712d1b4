/-
  Cuts of a text, as bytes.
-/
import Derived.Test.YtinjdlplbficiaaGreatDoorNa
import Derived.Test.YtinjdlplbficiaaGreatDoorUq
namespace Go.Proofs.YtinjdlplbficiaaGreatDoor
set_option linter.unusedVariables false
set_option linter.unusedSimpArgs false
theorem extract_head (s : ByteArray) (n : Nat) : s.extract 0 n = mkB ((bl s).take n) := by
  rw [Lib.extract_eq, List.drop_zero, Nat.sub_zero]; rfl
theorem extract_tail (s : ByteArray) (n : Nat) : s.extract n s.size = mkB ((bl s).drop n) := by
  rw [Lib.extract_eq]
  unfold mkB bl
  rw [List.take_of_length_le]
  rw [List.length_drop]
  exact Nat.sub_le_sub_right (Nat.le_of_eq (bl_len s)) n
end Go.Proofs.YtinjdlplbficiaaGreatDoor
