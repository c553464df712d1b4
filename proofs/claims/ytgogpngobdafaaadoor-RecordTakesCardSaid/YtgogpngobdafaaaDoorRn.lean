/-
  Names: the plain answers' own; and whether bytes go on with a rune.
-/
import Derived.Test.YtgogpngobdafaaaDoorNa
import Derived.Test.YtgogpngobdafaaaDoorIx
namespace Go.Proofs.YtgogpngobdafaaaDoor
set_option linter.unusedVariables false
set_option linter.unusedSimpArgs false
open Go.RowKit
section
set_option maxHeartbeats 1600000
set_option maxRecDepth 100000
theorem letter_any (r : Nat) (w : World) : Calls Tryd.prog 103 #[.int .u8 (r : Int)] w fun e w' => e = .returned (.bool (letterN r)) ∧ w = w' := by
  have e : letterN r = ((decide (97 ≤ r) && decide (r ≤ 122)) || (decide (65 ≤ r) && decide (r ≤ 90)) || (decide (48 ≤ r) && decide (r ≤ 57)) || decide (r = 95)) := by
    simp only [letterN, Bool.beq_eq_decide_eq]
    cases decide (r = 95) <;> simp
  rw [e]
  clear e
  have key : ∀ b2 b3 b4 b5 b6 b7 b1 : Bool, decide (97 ≤ r) = b2 → decide (r ≤ 122) = b3 → decide (65 ≤ r) = b4 → decide (r ≤ 90) = b5 → decide (48 ≤ r) = b6 → decide (r ≤ 57) = b7 → decide (r = 95) = b1 →
      Calls Tryd.prog 103 #[.int .u8 (r : Int)] w fun e w' => e = .returned (.bool ((b2 && b3) || (b4 && b5) || (b6 && b7) || b1)) ∧ w = w' := by
    intro b2 b3 b4 b5 b6 b7 b1 h2 h3 h4 h5 h6 h7 h1
    have h1' : ((r : Int) == 95) = b1 := by rw [← h1, Bool.beq_eq_decide_eq]; exact decide_eq_decide.2 (by omega)
    have h2' : decide ((97 : Int) ≤ r) = b2 := by rw [← h2]; exact decide_eq_decide.2 (by omega)
    have h3' : decide ((r : Int) ≤ 122) = b3 := by rw [← h3]; exact decide_eq_decide.2 (by omega)
    have h4' : decide ((65 : Int) ≤ r) = b4 := by rw [← h4]; exact decide_eq_decide.2 (by omega)
    have h5' : decide ((r : Int) ≤ 90) = b5 := by rw [← h5]; exact decide_eq_decide.2 (by omega)
    have h6' : decide ((48 : Int) ≤ r) = b6 := by rw [← h6]; exact decide_eq_decide.2 (by omega)
    have h7' : decide ((r : Int) ≤ 57) = b7 := by rw [← h7]; exact decide_eq_decide.2 (by omega)
    clear h1 h2 h3 h4 h5 h6 h7
    cases b2 <;> cases b3 <;> cases b4 <;> cases b5 <;> cases b6 <;> cases b7 <;> cases b1 <;> first | (exfalso; simp only [beq_iff_eq, beq_eq_false_iff_ne, decide_eq_true_eq, decide_eq_false_iff_not, ne_eq] at h1' h2' h3' h4' h5' h6' h7'; omega) | (
      go_enter Tryd.func103, Tryd.ntmps103
      go_wp2
      go_ret
      refine ⟨?_, rfl⟩
      first | rfl | (show Ending.returned (Value.bool _) = _; simp [h1', h2', h3', h4', h5', h6', h7']))
  exact key _ _ _ _ _ _ _ rfl rfl rfl rfl rfl rfl rfl
theorem rnamed_any (s : ByteArray) (w : World) (hl : s.size ≤ 1000000) : Calls Tryd.prog 82 #[.string s] w fun e w' => e = .returned (.bool (namedP (bl s))) ∧ w = w' := by
  obtain ⟨R, hR⟩ : ∃ R, R = namedP (bl s) := ⟨_, rfl⟩
  rw [← hR]
  have HR := Lib.hid hR; clear hR
  go_enter Tryd.func82, Tryd.ntmps82
  go_wp2
  go_loop [6] (fun s6 => ∃ k : Nat, s6 = .int .i64 k ∧ k ≤ s.size ∧ Aside (∀ j, j < k → letterN (byN s j) = true)) (fun s6 => s.size - (intOf s6).toNat)
  case atStart => exact ⟨0, rfl, by omega, fun j hj => absurd hj (Nat.not_lt_zero _)⟩
  case round =>
    obtain ⟨k, rfl, hk, A1⟩ := hrel
    have k0 : (0 : Int) ≤ (k : Int) := by omega
    have hlen := bl_len s
    by_cases hlt : k < s.size
    · have k1 : (k : Int) < (s.size : Int) := by omega
      have hix := fun (u : World) => run_index_s u s .i64 k hlt
      have hc := byN_lt s k
      have hle := letter_any (byN s k) w
      cases hL : letterN (byN s k) with
      | false =>
        have hr : R = false := by
          rw [HR.out]; unfold namedP
          have : (bl s).all (fun c => letterN c.toNat) = false := by
            rw [List.all_eq_false]
            have hlt' : k < (bl s).length := by rw [bl_len]; exact hlt
            refine ⟨(bl s)[k], List.getElem_mem hlt', ?_⟩
            unfold byN at hL
            rw [List.getD, List.getElem?_eq_getElem hlt'] at hL
            simpa using hL
          rw [this]; simp
        subst hr
        rw [hL] at hle
        generalize byN s k = c at hix hc hle
        have HL := Lib.hid hle; clear hle hL hlen
        go_wp2_with (first | (go_at_call 103; refine HL.out.mono ?_; rintro e w1 ⟨rfl, rfl⟩) | fail)
        go_ret
        exact ⟨rfl, rfl⟩
      | true =>
        rw [hL] at hle
        have hA2 : ∀ j, j < k + 1 → letterN (byN s j) = true := fun j hj => by
          by_cases e : j = k
          · subst e; exact hL
          · exact A1.out j (by omega)
        have HA2 := Lib.hid hA2; clear hA2
        generalize byN s k = c at hix hc hle
        have HL := Lib.hid hle; clear hle hL hlen
        go_wp2_with (first | (go_at_call 103; refine HL.out.mono ?_; rintro e w1 ⟨rfl, rfl⟩) | fail)
        go_round
        case rel => exact ⟨k + 1, by go_num, by omega, (show Aside _ from HA2.out)⟩
        case measure => simp [intOf]; omega
    · obtain rfl : k = s.size := by omega
      have hall : (bl s).all (fun c => letterN c.toNat) = true := by
        rw [List.all_eq_true]
        intro x hx
        obtain ⟨j, hj, rfl⟩ := List.mem_iff_getElem.1 hx
        have hj' : j < s.size := by rw [← bl_len]; exact hj
        have := A1.out j hj'
        unfold byN at this
        rwa [List.getD, List.getElem?_eq_getElem hj] at this
      have hr : R = (decide (1 ≤ s.size) && decide (s.size ≤ 64) && !digitN (byN s 0)) := by
        rw [HR.out]; unfold namedP
        rw [hall, Bool.and_true, hlen]
        have : (bl s).headD 0 = (bl s).getD 0 0 := by cases bl s <;> rfl
        rw [this]; rfl
      clear A1 hall hlen hlt
      by_cases h1 : 1 ≤ s.size
      · have g1 : (1 : Int) ≤ (s.size : Int) := by omega
        by_cases h2 : s.size ≤ 64
        · have g2 : (s.size : Int) ≤ 64 := by omega
          have hix : ∀ u, (Instr.index 9 (.string s) (.int .i64 0)).run Tryd.prog u = .ok (.int .u8 (byN s 0 : Nat)) u := fun u => run_index_s u s .i64 0 (by omega)
          rw [decide_eq_true h1, decide_eq_true h2, Bool.true_and, Bool.true_and] at hr
          generalize byN s 0 = c at hix hr
          by_cases h3 : c < 48
          · have g3 : (c : Int) < 48 := by omega
            have hr2 : R = true := by rw [hr]; unfold digitN; rw [decide_eq_false (by omega)]; rfl
            subst hr2
            clear hr
            go_wp2
            go_ret
            exact ⟨rfl, rfl⟩
          · have g3 : ¬ (c : Int) < 48 := by omega
            by_cases h4 : 57 < c
            · have g4 : (57 : Int) < c := by omega
              have hr2 : R = true := by rw [hr]; unfold digitN; rw [decide_eq_false (show ¬ c ≤ 57 by omega)]; simp
              subst hr2
              clear hr
              go_wp2
              go_ret
              exact ⟨rfl, rfl⟩
            · have g4 : ¬ (57 : Int) < c := by omega
              have hr2 : R = false := by rw [hr]; unfold digitN; rw [decide_eq_true (show 48 ≤ c by omega), decide_eq_true (show c ≤ 57 by omega)]; rfl
              subst hr2
              clear hr
              go_wp2
              go_ret
              exact ⟨rfl, rfl⟩
        · have g2 : ¬ (s.size : Int) ≤ 64 := by omega
          have hr2 : R = false := by rw [hr, decide_eq_false h2]; simp
          subst hr2
          clear hr
          go_wp2
          go_ret
          exact ⟨rfl, rfl⟩
      · have g1 : ¬ (1 : Int) ≤ (s.size : Int) := by omega
        have hr2 : R = false := by rw [hr, decide_eq_false h1]; simp
        subst hr2
        clear hr
        go_wp2
        go_ret
        exact ⟨rfl, rfl⟩
end
end Go.Proofs.YtgogpngobdafaaaDoor
