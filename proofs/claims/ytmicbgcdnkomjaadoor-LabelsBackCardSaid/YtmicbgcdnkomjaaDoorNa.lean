/-
  Names: the program's own way, rune by rune.
-/
import Derived.Test.YtmicbgcdnkomjaaDoorGen
import Derived.Test.YtmicbgcdnkomjaaDoorLb
import Derived.Laws.RangeAny
namespace Go.Proofs.YtmicbgcdnkomjaaDoor
set_option linter.unusedVariables false
set_option linter.unusedSimpArgs false
open Go.RowKit
section
set_option maxHeartbeats 800000
set_option maxRecDepth 100000
theorem isDigit_any (r : Nat) (w : World) : Calls Tryd.prog 95 #[.int .i32 (r : Int)] w fun e w' => e = .returned (.bool (digitN r)) ∧ w = w' := by
  by_cases h1 : 48 ≤ r
  · by_cases h2 : r ≤ 57
    · have e : digitN r = true := by simp [digitN, h1, h2]
      rw [e]
      have h1' : (48 : Int) ≤ r := by omega
      have h2' : (r : Int) ≤ 57 := by omega
      go_enter Tryd.func95, Tryd.ntmps95
      go_wp2
      go_ret
      exact ⟨rfl, rfl⟩
    · have e : digitN r = false := by simp [digitN, h1, h2]
      rw [e]
      have h1' : (48 : Int) ≤ r := by omega
      have h2' : ¬ (r : Int) ≤ 57 := by omega
      go_enter Tryd.func95, Tryd.ntmps95
      go_wp2
      go_ret
      exact ⟨rfl, rfl⟩
  · have e : digitN r = false := by simp [digitN, h1]
    rw [e]
    have h1' : ¬ (48 : Int) ≤ r := by omega
    go_enter Tryd.func95, Tryd.ntmps95
    go_wp2
    go_ret
    exact ⟨rfl, rfl⟩
theorem inName_any (r : Nat) (w : World) : Calls Tryd.prog 94 #[.int .i32 (r : Int)] w fun e w' => e = .returned (.bool (letterN r)) ∧ w = w' := by
  have hd := isDigit_any r w
  obtain ⟨D, hD⟩ : ∃ D, D = digitN r := ⟨_, rfl⟩
  have e : letterN r = (decide (r = 95) || (decide (97 ≤ r) && decide (r ≤ 122)) || (decide (65 ≤ r) && decide (r ≤ 90)) || D) := by rw [hD]; simp [letterN, digitN, Bool.beq_eq_decide_eq]
  rw [← hD] at hd
  rw [e]
  have HH := Lib.hid hd; clear hd hD e
  have key : ∀ b1 b2 b3 b4 b5 : Bool, decide (r = 95) = b1 → decide (97 ≤ r) = b2 → decide (r ≤ 122) = b3 → decide (65 ≤ r) = b4 → decide (r ≤ 90) = b5 →
      Calls Tryd.prog 94 #[.int .i32 (r : Int)] w fun e w' => e = .returned (.bool (b1 || (b2 && b3) || (b4 && b5) || D)) ∧ w = w' := by
    intro b1 b2 b3 b4 b5 h1 h2 h3 h4 h5
    have h1' : ((r : Int) == 95) = b1 := by rw [← h1, Bool.beq_eq_decide_eq]; exact decide_eq_decide.2 (by omega)
    have h2' : decide ((97 : Int) ≤ r) = b2 := by rw [← h2]; exact decide_eq_decide.2 (by omega)
    have h3' : decide ((r : Int) ≤ 122) = b3 := by rw [← h3]; exact decide_eq_decide.2 (by omega)
    have h4' : decide ((65 : Int) ≤ r) = b4 := by rw [← h4]; exact decide_eq_decide.2 (by omega)
    have h5' : decide ((r : Int) ≤ 90) = b5 := by rw [← h5]; exact decide_eq_decide.2 (by omega)
    clear h1 h2 h3 h4 h5
    cases b1 <;> cases b2 <;> cases b3 <;> cases b4 <;> cases b5 <;> first | (exfalso; simp only [beq_iff_eq, beq_eq_false_iff_ne, decide_eq_true_eq, decide_eq_false_iff_not, ne_eq] at h1' h2' h3' h4' h5'; omega) | (
      go_enter Tryd.func94, Tryd.ntmps94
      go_wp2_with (first | (go_at_call 95; refine HH.out.mono ?_; rintro e w1 ⟨rfl, rfl⟩) | fail)
      go_ret
      refine ⟨?_, rfl⟩
      first | rfl | (show Ending.returned (Value.bool _) = _; simp [h1', h2', h3', h4', h5']))
  exact key _ _ _ _ _ rfl rfl rfl rfl rfl
end
end Go.Proofs.YtmicbgcdnkomjaaDoor
