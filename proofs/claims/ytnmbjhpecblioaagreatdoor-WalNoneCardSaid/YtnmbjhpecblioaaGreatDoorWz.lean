/-
  A log that no call made; a disk that none made.
-/
import Derived.Test.YtnmbjhpecblioaaGreatDoorWh
namespace Go.Proofs.YtnmbjhpecblioaaGreatDoor
set_option linter.unusedVariables false
set_option linter.unusedSimpArgs false
open Go.Maps Go.RowKit
/-- No call made the log. -/
def UnmadeW (w : World) (p : Option Addr) : Prop := Calls Tryz.prog 61 #[.pointer p] w fun e w' => e = .returned (.bool false) ∧ w = w'
/-- No call made the disk. -/
def UnmadeD (w : World) (p : Option Addr) : Prop := Calls Tryz.prog 51 #[.pointer p] w fun e w' => e = .returned (.bool false) ∧ w = w'
section
set_option maxHeartbeats 1600000
set_option maxRecDepth 100000
variable {w : World} {p : Option Addr}
theorem dlasts_not (h : UnmadeD w p) (s : ByteArray) : Calls Tryz.prog 49 #[.pointer p, .string s] w fun e w' => e = .returned (.tuple #[.int .i64 0, .int .i64 2]) ∧ w = w' := by
  have HM := Lib.hid (find_not h s); clear h
  go_enter Tryz.func49, Tryz.ntmps49
  go_wp2_with (first
    | (go_at_call 60; refine HM.out.mono ?_; rintro e w1 ⟨rfl, rfl⟩)
    | fail)
  go_ret2
  exact ⟨rfl, rfl⟩
theorem wopen_not (h : UnmadeD w p) : Calls Tryz.prog 27 #[.pointer p] w fun e w' => e = .returned (.tuple #[.pointer none, .slice none 0 0, .int .i64 2]) ∧ w = w' := by
  have HM := Lib.hid (dlasts_not h ⟨#[]⟩); clear h
  go_enter Tryz.func27, Tryz.ntmps27
  go_wp2_with fail
  with_reducible refine HM.out.mono ?_
  rintro e w1 ⟨rfl, rfl⟩
  go_wp2
  go_ret3
  exact ⟨rfl, rfl⟩
theorem wappend_not (h : UnmadeW w p) (v : Value) : Calls Tryz.prog 28 #[.pointer p, v] w fun e w' => e = .returned (.int .i64 2) ∧ w = w' := by
  have HM := Lib.hid h; clear h
  unfold UnmadeW at HM
  go_enter Tryz.func28, Tryz.ntmps28
  go_wp2_with fail
  with_reducible refine HM.out.mono ?_
  rintro e w1 ⟨rfl, rfl⟩
  go_wp2
  go_ret
  exact ⟨rfl, rfl⟩
theorem wsync_not (h : UnmadeW w p) : Calls Tryz.prog 30 #[.pointer p] w fun e w' => e = .returned (.int .i64 2) ∧ w = w' := by
  have HM := Lib.hid h; clear h
  unfold UnmadeW at HM
  go_enter Tryz.func30, Tryz.ntmps30
  go_wp2_with fail
  with_reducible refine HM.out.mono ?_
  rintro e w1 ⟨rfl, rfl⟩
  go_wp2
  go_ret
  exact ⟨rfl, rfl⟩
theorem roll_not (h : UnmadeW w p) : Calls Tryz.prog 31 #[.pointer p] w fun e w' => e = .returned (.int .i64 2) ∧ w = w' := by
  have HM := Lib.hid h; clear h
  unfold UnmadeW at HM
  go_enter Tryz.func31, Tryz.ntmps31
  go_wp2_with fail
  with_reducible refine HM.out.mono ?_
  rintro e w1 ⟨rfl, rfl⟩
  go_wp2
  go_ret
  exact ⟨rfl, rfl⟩
theorem drop_not (h : UnmadeW w p) (n : Int) : Calls Tryz.prog 38 #[.pointer p, .int .i64 n] w fun e w' => e = .returned (.int .i64 2) ∧ w = w' := by
  have HM := Lib.hid h; clear h
  unfold UnmadeW at HM
  go_enter Tryz.func38, Tryz.ntmps38
  go_wp2_with fail
  with_reducible refine HM.out.mono ?_
  rintro e w1 ⟨rfl, rfl⟩
  go_wp2
  go_ret
  exact ⟨rfl, rfl⟩
theorem wcount_not (h : UnmadeW w p) : Calls Tryz.prog 34 #[.pointer p] w fun e w' => e = .returned (.int .i64 0) ∧ w = w' := by
  have HM := Lib.hid h; clear h
  unfold UnmadeW at HM
  go_enter Tryz.func34, Tryz.ntmps34
  go_wp2_with fail
  with_reducible refine HM.out.mono ?_
  rintro e w1 ⟨rfl, rfl⟩
  go_wp2
  go_ret
  exact ⟨rfl, rfl⟩
theorem wsure_not (h : UnmadeW w p) : Calls Tryz.prog 32 #[.pointer p] w fun e w' => e = .returned (.int .i64 0) ∧ w = w' := by
  have HM := Lib.hid h; clear h
  unfold UnmadeW at HM
  go_enter Tryz.func32, Tryz.ntmps32
  go_wp2_with fail
  with_reducible refine HM.out.mono ?_
  rintro e w1 ⟨rfl, rfl⟩
  go_wp2
  go_ret
  exact ⟨rfl, rfl⟩
theorem wsegment_not (h : UnmadeW w p) : Calls Tryz.prog 39 #[.pointer p] w fun e w' => e = .returned (.int .i64 0) ∧ w = w' := by
  have HM := Lib.hid h; clear h
  unfold UnmadeW at HM
  go_enter Tryz.func39, Tryz.ntmps39
  go_wp2_with fail
  with_reducible refine HM.out.mono ?_
  rintro e w1 ⟨rfl, rfl⟩
  go_wp2
  go_ret
  exact ⟨rfl, rfl⟩
theorem wsegs_not (h : UnmadeW w p) : Calls Tryz.prog 22 #[.pointer p] w fun e w' => e = .returned (.slice none 0 0) ∧ w = w' := by
  have HM := Lib.hid h; clear h
  unfold UnmadeW at HM
  go_enter Tryz.func22, Tryz.ntmps22
  go_wp2_with fail
  with_reducible refine HM.out.mono ?_
  rintro e w1 ⟨rfl, rfl⟩
  go_wp2
  go_ret
  exact ⟨rfl, rfl⟩
theorem wsize_not (h : UnmadeW w p) : Calls Tryz.prog 24 #[.pointer p] w fun e w' => e = .returned (.int .i64 0) ∧ w = w' := by
  have HM := Lib.hid (wsegs_not h); clear h
  go_enter Tryz.func24, Tryz.ntmps24
  go_wp2_with fail
  with_reducible refine HM.out.mono ?_
  rintro e w1 ⟨rfl, rfl⟩
  go_wp2
  go_loopw [3, 9] (fun s3 s9 wr => s3 = .int .i64 0 ∧ s9 = .int .i64 0 ∧ wr = w) (fun _ _ _ => 0)
  case atStart => exact ⟨rfl, rfl, rfl⟩
  case round =>
    obtain ⟨rfl, rfl, rfl⟩ := hrel
    go_wp2
    go_ret
    exact ⟨rfl, rfl⟩
end
end Go.Proofs.YtnmbjhpecblioaaGreatDoor
