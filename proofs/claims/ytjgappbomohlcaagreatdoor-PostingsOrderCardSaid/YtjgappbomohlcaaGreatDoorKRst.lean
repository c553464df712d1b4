/-
  Valid UTF-8: the plain answers' own. Valid UTF-8: how many bytes a rune has, by the plain answers. Valid UTF-8 and values: the plain answers' own.
-/
import Derived.Test.YtjgappbomohlcaaGreatDoorK02
import Derived.Test.YtjgappbomohlcaaGreatDoorKLb
namespace Go.Proofs.YtjgappbomohlcaaGreatDoor
section
set_option linter.unusedVariables false
set_option linter.unusedSimpArgs false
section
set_option linter.unusedVariables false
set_option linter.unusedSimpArgs false
open Go.RowKit
/-- Do n bytes stand at a place that go on with a rune? -/
def moreP (s : ByteArray) (at' n : Nat) : Bool := decide (at' + n ≤ s.size) && (List.range n).all fun i => decide (byN s (at' + i) / 64 = 2)
section
set_option maxHeartbeats 1600000
set_option maxRecDepth 100000
theorem more_any (s : ByteArray) (p n : Nat) (w : World) (hl : s.size ≤ 1000000) (hp : p ≤ s.size) (hn : n ≤ 3) : Calls Tryz.prog 125 #[.string s, .int .i64 (p : Nat), .int .i64 (n : Nat)] w fun e w' => e = .returned (.bool (moreP s p n)) ∧ w = w' := by
  obtain ⟨R, hR⟩ : ∃ R, R = moreP s p n := ⟨_, rfl⟩
  rw [← hR]
  unfold moreP at hR
  by_cases h1 : p + n ≤ s.size
  · have g1 : ¬ ((s.size : Int) - (n : Int) < (p : Int)) := by omega
    rw [decide_eq_true h1, Bool.true_and] at hR
    have HR := Lib.hid hR; clear hR
    go_enter Tryz.func125, Tryz.ntmps125
    go_wp2
    go_loop [15] (fun s15 => ∃ k : Nat, s15 = .int .i64 k ∧ k ≤ n ∧ Aside (∀ j, j < k → byN s (p + j) / 64 = 2)) (fun s15 => n - (intOf s15).toNat)
    case atStart => exact ⟨0, rfl, by omega, fun j hj => absurd hj (Nat.not_lt_zero _)⟩
    case round =>
      obtain ⟨k, rfl, hk, A1⟩ := hrel
      have k0 : (0 : Int) ≤ (k : Int) := by omega
      by_cases hlt : k < n
      · have k1 : (k : Int) < (n : Int) := by omega
        have hix : ∀ u, (Instr.index 9 (.string s) (.int .i64 ((p : Int) + (k : Int)))).run Tryz.prog u = .ok (.int .u8 (byN s (p + k) : Nat)) u := fun u => by
          have := run_index_s u s .i64 (p + k) (by omega)
          rwa [Int.natCast_add] at this
        have hc := byN_lt s (p + k)
        have hw : IntKind.i64.wrap ((p : Int) + (k : Int)) = (p : Int) + (k : Int) := by rw [IntKind.wrap_i64]; omega
        by_cases h2 : byN s (p + k) / 64 = 2
        · have hA2 : ∀ j, j < k + 1 → byN s (p + j) / 64 = 2 := fun j hj => by
            by_cases e : j = k
            · subst e; exact h2
            · exact A1.out j (by omega)
          have HA2 := Lib.hid hA2; clear hA2
          generalize byN s (p + k) = c at hix hc h2
          have g2 : ((c : Int) / 64 != 2) = false := by rw [bne_eq_false_iff_eq]; omega
          clear h2
          go_wp2
          go_round
          case rel => exact ⟨k + 1, by go_num, by omega, (show Aside _ from HA2.out)⟩
          case measure => simp [intOf]; omega
        · have hr : R = false := by
            rw [HR.out, List.all_eq_false]
            exact ⟨k, List.mem_range.2 hlt, by simpa using h2⟩
          subst hr
          generalize byN s (p + k) = c at hix hc h2
          have g2 : ((c : Int) / 64 != 2) = true := by rw [bne_iff_ne]; omega
          clear h2
          go_wp2
          go_ret
          exact ⟨rfl, rfl⟩
      · obtain rfl : k = n := by omega
        have hr : R = true := by
          rw [HR.out, List.all_eq_true]
          intro i hi
          exact decide_eq_true (A1.out i (List.mem_range.1 hi))
        subst hr
        go_wp2
        go_ret
        exact ⟨rfl, rfl⟩
  · have g1 : (s.size : Int) - (n : Int) < (p : Int) := by omega
    rw [decide_eq_false h1, Bool.false_and] at hR
    subst hR
    go_enter Tryz.func125, Tryz.ntmps125
    go_wp2
    go_ret
    exact ⟨rfl, rfl⟩
end
end
section
set_option linter.unusedVariables false
set_option linter.unusedSimpArgs false
open Go.RowKit
theorem stepB_at (s : ByteArray) (p : Nat) : stepB ((bl s).drop p) = stepN (s.size - p) (byN s p) (byN s (p + 1)) (byN s (p + 2)) (byN s (p + 3)) := by
  unfold stepB byN
  rw [List.length_drop, bl_len]
  simp only [List.getD, List.getElem?_drop, Nat.add_zero]
theorem more_1 (s : ByteArray) (p : Nat) : moreP s (p + 1) 1 = decide (1 < s.size - p ∧ byN s (p + 1) / 64 = 2) := by
  unfold moreP
  simp only [List.range_one, List.all_cons, List.all_nil, Bool.and_true, Nat.add_zero]
  rw [Bool.decide_and]
  congr 1
  exact decide_eq_decide.2 (by omega)
theorem more_2 (s : ByteArray) (p : Nat) : moreP s (p + 1) 2 = decide ((1 < s.size - p ∧ byN s (p + 1) / 64 = 2) ∧ (2 < s.size - p ∧ byN s (p + 2) / 64 = 2)) := by
  unfold moreP
  rw [show List.range 2 = [0, 1] from rfl]
  simp only [List.all_cons, List.all_nil, Bool.and_true, Nat.add_zero, show p + 1 + 1 = p + 2 from rfl]
  rw [← Bool.decide_and, ← Bool.decide_and]
  exact decide_eq_decide.2 (by omega)
theorem more_3 (s : ByteArray) (p : Nat) : moreP s (p + 1) 3 = decide ((1 < s.size - p ∧ byN s (p + 1) / 64 = 2) ∧ (2 < s.size - p ∧ byN s (p + 2) / 64 = 2) ∧ (3 < s.size - p ∧ byN s (p + 3) / 64 = 2)) := by
  unfold moreP
  rw [show List.range 3 = [0, 1, 2] from rfl]
  simp only [List.all_cons, List.all_nil, Bool.and_true, Nat.add_zero, show p + 1 + 1 = p + 2 from rfl, show p + 1 + 2 = p + 3 from rfl]
  rw [← Bool.decide_and, ← Bool.decide_and, ← Bool.decide_and]
  exact decide_eq_decide.2 (by omega)
section
set_option maxHeartbeats 1600000
set_option maxRecDepth 1000000
theorem rstep_any (s : ByteArray) (p : Nat) (w : World) (hl : s.size ≤ 1000000) (hp : p < s.size) : Calls Tryz.prog 102 #[.string s, .int .i64 (p : Nat)] w fun e w' => e = .returned (.int .i64 (stepB ((bl s).drop p) : Nat)) ∧ ∃ n, w' = w.drewN n := by
  rw [stepB_at]
  obtain ⟨R, hR⟩ : ∃ R, R = stepN (s.size - p) (byN s p) (byN s (p + 1)) (byN s (p + 2)) (byN s (p + 3)) := ⟨_, rfl⟩
  rw [← hR]
  have hix := fun (u : World) => run_index_s u s .i64 p hp
  have hc := byN_lt s p
  have hb1 := byN_lt s (p + 1)
  have hb2 := byN_lt s (p + 2)
  have hb3 := byN_lt s (p + 3)
  have hix1 : 1 < s.size - p → ∀ u, (Instr.index 9 (.string s) (.int .i64 ((p : Int) + 1))).run Tryz.prog u = .ok (.int .u8 (byN s (p + 1) : Nat)) u := fun h u => by
    have := run_index_s u s .i64 (p + 1) (by omega)
    rwa [Int.natCast_add] at this
  have hix2 : 2 < s.size - p → ∀ u, (Instr.index 9 (.string s) (.int .i64 ((p : Int) + 2))).run Tryz.prog u = .ok (.int .u8 (byN s (p + 2) : Nat)) u := fun h u => by
    have := run_index_s u s .i64 (p + 2) (by omega)
    rwa [Int.natCast_add] at this
  have hix3 : 3 < s.size - p → ∀ u, (Instr.index 9 (.string s) (.int .i64 ((p : Int) + 3))).run Tryz.prog u = .ok (.int .u8 (byN s (p + 3) : Nat)) u := fun h u => by
    have := run_index_s u s .i64 (p + 3) (by omega)
    rwa [Int.natCast_add] at this
  have hm1 := fun W => more_any s (p + 1) 1 W hl (by omega) (by omega)
  have hm2 := fun W => more_any s (p + 1) 2 W hl (by omega) (by omega)
  have hm3 := fun W => more_any s (p + 1) 3 W hl (by omega) (by omega)
  simp only [more_1, Int.natCast_add] at hm1
  simp only [more_2, Int.natCast_add] at hm2
  simp only [more_3, Int.natCast_add] at hm3
  generalize s.size - p = m at hix1 hix2 hix3 hm1 hm2 hm3 hR
  generalize byN s p = c at hix hc hR
  generalize byN s (p + 1) = b1 at hix1 hm1 hm2 hm3 hb1 hR
  generalize byN s (p + 2) = b2 at hix2 hm2 hm3 hb2 hR
  generalize byN s (p + 3) = b3 at hix3 hm3 hb3 hR
  unfold stepN at hR
  have HX1 := Lib.hid hix1; have HX2 := Lib.hid hix2; have HX3 := Lib.hid hix3
  clear hix1 hix2 hix3
  by_cases q1 : c < 128
  · rw [if_pos q1] at hR
    subst hR
    have g1 : (c : Int) < 128 := by omega
    clear hm1 hm2 hm3 q1
    go_enter Tryz.func102, Tryz.ntmps102
    go_wp2
    go_ret
    exact ⟨rfl, 0, rfl⟩
  · rw [if_neg q1] at hR
    have g1 : ¬ (c : Int) < 128 := by omega
    by_cases r1 : 194 ≤ c ∧ c < 224
    · have g2 : (194 : Int) ≤ (c : Int) := by omega
      have g3 : (c : Int) < 224 := by omega
      have g4 : ¬ (224 : Int) ≤ (c : Int) := by omega
      have g5 : ¬ (240 : Int) ≤ (c : Int) := by omega
      clear hm2 hm3
      by_cases q2 : 1 < m ∧ b1 / 64 = 2
      · rw [if_pos ⟨r1, q2⟩] at hR
        subst hR
        simp only [q2, decide_true] at hm1
        have HM := Lib.hid hm1; clear hm1
        go_enter Tryz.func102, Tryz.ntmps102
        go_wp2_with (first | (go_at_call 125; refine (HM.out _).mono ?_; rintro e w1 ⟨rfl, rfl⟩) | fail)
        go_ret
        exact ⟨rfl, 0, rfl⟩
      · rw [if_neg (fun h => q2 h.2), if_neg (by omega), if_neg (by omega)] at hR
        subst hR
        simp only [q2, decide_false] at hm1
        have HM := Lib.hid hm1; clear hm1
        go_enter Tryz.func102, Tryz.ntmps102
        go_wp2_with (first | (go_at_call 125; refine (HM.out _).mono ?_; rintro e w1 ⟨rfl, rfl⟩) | fail)
        go_ret
        exact ⟨rfl, 0, rfl⟩
    · by_cases r2 : 224 ≤ c ∧ c < 240
      · have g2 : (194 : Int) ≤ (c : Int) := by omega
        have g3 : ¬ (c : Int) < 224 := by omega
        have g4 : (224 : Int) ≤ (c : Int) := by omega
        have g5 : (c : Int) < 240 := by omega
        have g6 : ¬ (240 : Int) ≤ (c : Int) := by omega
        rw [if_neg (fun h => r1 h.1)] at hR
        clear hm1 hm3
        by_cases q2 : (1 < m ∧ b1 / 64 = 2) ∧ (2 < m ∧ b2 / 64 = 2)
        · rw [if_pos ⟨r2, q2⟩] at hR
          have hx1 := HX1.out q2.1.1
          have hx2 := HX2.out q2.2.1
          simp only [q2, decide_true] at hm2
          have HM := Lib.hid hm2; clear hm2
          obtain ⟨v, hv⟩ : ∃ v, v = c % 16 * 4096 + b1 % 64 * 64 + b2 % 64 := ⟨_, rfl⟩
          have hvz : (c : Int) % 16 * 4096 + (b1 : Int) % 64 * 64 + (b2 : Int) % 64 = (v : Int) := by omega
          have hv2 : v < 65536 := by omega
          rw [← hv] at hR
          have HV := Lib.hid hv; clear hv
          have HVZ := Lib.hid hvz; clear hvz
          have HR := Lib.hid hR; clear hR
          have w1 : IntKind.i64.wrap ((p : Int) + 1) = (p : Int) + 1 := by rw [IntKind.wrap_i64]; omega
          have w2 : IntKind.i64.wrap ((p : Int) + 2) = (p : Int) + 2 := by rw [IntKind.wrap_i64]; omega
          have a1 : IntKind.i64.wrap ((c : Int) % 16) = (c : Int) % 16 := by rw [IntKind.wrap_i64]; omega
          have a2 : IntKind.i64.wrap ((c : Int) % 16 * 4096) = (c : Int) % 16 * 4096 := by rw [IntKind.wrap_i64]; omega
          have a3 : IntKind.i64.wrap ((b1 : Int) % 64) = (b1 : Int) % 64 := by rw [IntKind.wrap_i64]; omega
          have a4 : IntKind.i64.wrap ((b1 : Int) % 64 * 64) = (b1 : Int) % 64 * 64 := by rw [IntKind.wrap_i64]; omega
          have a5 : IntKind.i64.wrap ((c : Int) % 16 * 4096 + (b1 : Int) % 64 * 64) = (c : Int) % 16 * 4096 + (b1 : Int) % 64 * 64 := by rw [IntKind.wrap_i64]; omega
          have a6 : IntKind.i64.wrap ((b2 : Int) % 64) = (b2 : Int) % 64 := by rw [IntKind.wrap_i64]; omega
          have a7 : IntKind.i64.wrap ((c : Int) % 16 * 4096 + (b1 : Int) % 64 * 64 + (b2 : Int) % 64) = (c : Int) % 16 * 4096 + (b1 : Int) % 64 * 64 + (b2 : Int) % 64 := by rw [IntKind.wrap_i64]; omega
          have QQ := Lib.hid (And.intro hl (And.intro hp (And.intro hc (And.intro hb1 (And.intro hb2 (And.intro hb3 hv2))))))
          have g0c : (0 : Int) ≤ (c : Int) := by omega
          have g0b : (0 : Int) ≤ (b1 : Int) := by omega
          have g0d : (0 : Int) ≤ (b2 : Int) := by omega
          clear r1 r2 q1 q2 hv2 hb3 HX1 HX2 HX3
          go_enter Tryz.func102, Tryz.ntmps102
          go_wp2_with (first | (go_at_call 125; refine (HM.out _).mono ?_; rintro e w1 ⟨rfl, rfl⟩) | fail)
          go_quiet (fail)
          go_wp2
          all_goals
            go_ret
            have hr := HR.out
            have hv := HVZ.out
            refine ⟨?_, nq, rfl⟩
            first
              | (have e : R = 3 := by rw [hr, if_pos (by omega)]
                 rw [e]; rfl)
              | (have e : R = 0 := by rw [hr, if_neg (by omega)]
                 rw [e]; rfl)
        · rw [if_neg (fun h => q2 h.2), if_neg (by omega)] at hR
          subst hR
          simp only [q2, decide_false] at hm2
          have HM := Lib.hid hm2; clear hm2
          go_enter Tryz.func102, Tryz.ntmps102
          go_wp2_with (first | (go_at_call 125; refine (HM.out _).mono ?_; rintro e w1 ⟨rfl, rfl⟩) | fail)
          go_ret
          exact ⟨rfl, 0, rfl⟩
      · rw [if_neg (fun h => r1 h.1), if_neg (fun h => r2 h.1)] at hR
        clear hm1 hm2
        by_cases r3 : 240 ≤ c ∧ c < 245
        · have g2 : (194 : Int) ≤ (c : Int) := by omega
          have g3 : ¬ (c : Int) < 224 := by omega
          have g4 : (224 : Int) ≤ (c : Int) := by omega
          have g5 : ¬ (c : Int) < 240 := by omega
          have g6 : (240 : Int) ≤ (c : Int) := by omega
          have g7 : (c : Int) < 245 := by omega
          by_cases q2 : (1 < m ∧ b1 / 64 = 2) ∧ (2 < m ∧ b2 / 64 = 2) ∧ (3 < m ∧ b3 / 64 = 2)
          · rw [if_pos ⟨r3, q2⟩] at hR
            have hx1 := HX1.out q2.1.1
            have hx2 := HX2.out q2.2.1.1
            have hx3 := HX3.out q2.2.2.1
            simp only [q2, decide_true] at hm3
            have HM := Lib.hid hm3; clear hm3
            obtain ⟨v, hv⟩ : ∃ v, v = c % 8 * 262144 + b1 % 64 * 4096 + b2 % 64 * 64 + b3 % 64 := ⟨_, rfl⟩
            have hvz : (c : Int) % 8 * 262144 + (b1 : Int) % 64 * 4096 + (b2 : Int) % 64 * 64 + (b3 : Int) % 64 = (v : Int) := by omega
            rw [← hv] at hR
            have HV := Lib.hid hv; clear hv
            have HVZ := Lib.hid hvz; clear hvz
            have HR := Lib.hid hR; clear hR
            have w1 : IntKind.i64.wrap ((p : Int) + 1) = (p : Int) + 1 := by rw [IntKind.wrap_i64]; omega
            have w2 : IntKind.i64.wrap ((p : Int) + 2) = (p : Int) + 2 := by rw [IntKind.wrap_i64]; omega
            have w3 : IntKind.i64.wrap ((p : Int) + 3) = (p : Int) + 3 := by rw [IntKind.wrap_i64]; omega
            have a1 : IntKind.i64.wrap ((c : Int) % 8) = (c : Int) % 8 := by rw [IntKind.wrap_i64]; omega
            have a2 : IntKind.i64.wrap ((c : Int) % 8 * 262144) = (c : Int) % 8 * 262144 := by rw [IntKind.wrap_i64]; omega
            have a3 : IntKind.i64.wrap ((b1 : Int) % 64) = (b1 : Int) % 64 := by rw [IntKind.wrap_i64]; omega
            have a4 : IntKind.i64.wrap ((b1 : Int) % 64 * 4096) = (b1 : Int) % 64 * 4096 := by rw [IntKind.wrap_i64]; omega
            have a5 : IntKind.i64.wrap ((c : Int) % 8 * 262144 + (b1 : Int) % 64 * 4096) = (c : Int) % 8 * 262144 + (b1 : Int) % 64 * 4096 := by rw [IntKind.wrap_i64]; omega
            have a6 : IntKind.i64.wrap ((b2 : Int) % 64) = (b2 : Int) % 64 := by rw [IntKind.wrap_i64]; omega
            have a7 : IntKind.i64.wrap ((b2 : Int) % 64 * 64) = (b2 : Int) % 64 * 64 := by rw [IntKind.wrap_i64]; omega
            have a8 : IntKind.i64.wrap ((c : Int) % 8 * 262144 + (b1 : Int) % 64 * 4096 + (b2 : Int) % 64 * 64) = (c : Int) % 8 * 262144 + (b1 : Int) % 64 * 4096 + (b2 : Int) % 64 * 64 := by rw [IntKind.wrap_i64]; omega
            have a9 : IntKind.i64.wrap ((b3 : Int) % 64) = (b3 : Int) % 64 := by rw [IntKind.wrap_i64]; omega
            have a10 : IntKind.i64.wrap ((c : Int) % 8 * 262144 + (b1 : Int) % 64 * 4096 + (b2 : Int) % 64 * 64 + (b3 : Int) % 64) = (c : Int) % 8 * 262144 + (b1 : Int) % 64 * 4096 + (b2 : Int) % 64 * 64 + (b3 : Int) % 64 := by rw [IntKind.wrap_i64]; omega
            have g0c : (0 : Int) ≤ (c : Int) := by omega
            have g0b : (0 : Int) ≤ (b1 : Int) := by omega
            have g0d : (0 : Int) ≤ (b2 : Int) := by omega
            have g0e : (0 : Int) ≤ (b3 : Int) := by omega
            clear r1 r2 r3 q1 q2 HX1 HX2 HX3
            go_enter Tryz.func102, Tryz.ntmps102
            go_wp2_with (first | (go_at_call 125; refine (HM.out _).mono ?_; rintro e w1 ⟨rfl, rfl⟩) | fail)
            go_quiet (fail)
            go_wp2
            all_goals
              go_ret
              have hr := HR.out
              have hv := HVZ.out
              refine ⟨?_, nq, rfl⟩
              first
                | (have e : R = 4 := by rw [hr, if_pos (by omega)]
                   rw [e]; rfl)
                | (have e : R = 0 := by rw [hr, if_neg (by omega)]
                   rw [e]; rfl)
          · rw [if_neg (fun h => q2 h.2)] at hR
            subst hR
            simp only [q2, decide_false] at hm3
            have HM := Lib.hid hm3; clear hm3
            go_enter Tryz.func102, Tryz.ntmps102
            go_wp2_with (first | (go_at_call 125; refine (HM.out _).mono ?_; rintro e w1 ⟨rfl, rfl⟩) | fail)
            go_ret
            exact ⟨rfl, 0, rfl⟩
        · rw [if_neg (fun h => r3 h.1)] at hR
          subst hR
          clear hm3
          by_cases k1 : c < 194
          · have g2 : ¬ (194 : Int) ≤ (c : Int) := by omega
            have g3 : ¬ (224 : Int) ≤ (c : Int) := by omega
            have g4 : ¬ (240 : Int) ≤ (c : Int) := by omega
            clear r1 r2 r3 k1
            go_enter Tryz.func102, Tryz.ntmps102
            go_wp2
            go_ret
            exact ⟨rfl, 0, rfl⟩
          · have g2 : (194 : Int) ≤ (c : Int) := by omega
            have g3 : ¬ (c : Int) < 224 := by omega
            have g4 : (224 : Int) ≤ (c : Int) := by omega
            have g5 : ¬ (c : Int) < 240 := by omega
            have g6 : (240 : Int) ≤ (c : Int) := by omega
            have g7 : ¬ (c : Int) < 245 := by omega
            clear r1 r2 r3 k1
            go_enter Tryz.func102, Tryz.ntmps102
            go_wp2
            go_ret
            exact ⟨rfl, 0, rfl⟩
end
end
section
set_option linter.unusedVariables false
set_option linter.unusedSimpArgs false
open Go.RowKit
section
set_option maxHeartbeats 1600000
set_option maxRecDepth 100000
theorem rvalid_any (s : ByteArray) (w : World) (hl : s.size ≤ 1000000) : Calls Tryz.prog 86 #[.string s] w fun e w' => e = .returned (.bool (Lib.validD (bl s))) ∧ ∃ n, w' = w.drewN n := by
  obtain ⟨R, hR⟩ : ∃ R, R = Lib.validD (bl s) := ⟨_, rfl⟩
  rw [← hR]
  have hst : R = Lib.validD ((bl s).drop 0) := by rw [hR, List.drop_zero]
  have HST := Lib.hid hst; clear hst hR
  go_enter Tryz.func86, Tryz.ntmps86
  go_wp2
  go_loopw [3] (fun s3 wr => ∃ k n : Nat, s3 = .int .i64 k ∧ k ≤ s.size ∧ wr = w.drewN n ∧ Aside (R = Lib.validD ((bl s).drop k))) (fun s3 _ => s.size - (intOf s3).toNat)
  case atStart => exact ⟨0, 0, rfl, by omega, rfl, HST.out⟩
  case round =>
    obtain ⟨k, n, rfl, hk, rfl, E⟩ := hrel
    have k0 : (0 : Int) ≤ (k : Int) := by omega
    by_cases hlt : k < s.size
    · have k1 : (k : Int) < (s.size : Int) := by omega
      have hne : (bl s).drop k ≠ [] := by intro h; have := congrArg List.length h; rw [List.length_drop, bl_len, List.length_nil] at this; omega
      have hE := E.out.trans (valid_stepB _ hne)
      have hstep := rstep_any s k (w.drewN n) hl hlt
      have hle : stepB ((bl s).drop k) ≤ s.size - k := by
        rcases stepB_le ((bl s).drop k) with h | h
        · rw [List.length_drop, bl_len] at h; exact h
        · exact absurd h hne
      rw [List.drop_drop] at hE
      generalize stepB ((bl s).drop k) = d at hE hstep hle
      have HS := Lib.hid hstep; clear hstep hne E
      by_cases h0 : d = 0
      · subst h0
        rw [if_pos rfl] at hE
        subst hE
        go_wp2_with fail
        refine HS.out.mono ?_
        rintro e w1 ⟨rfl, m, rfl⟩
        go_wp2
        go_ret
        exact ⟨rfl, n + m, rfl⟩
      · rw [if_neg h0] at hE
        have HE := Lib.hid hE; clear hE
        have g0 : ((d : Int) == 0) = false := beq_eq_false_iff_ne.2 (by omega)
        go_wp2_with fail
        refine HS.out.mono ?_
        rintro e w1 ⟨rfl, m, rfl⟩
        go_wp2
        go_roundw
        case rel => exact ⟨k + d, n + m, by go_num, by omega, rfl, (show Aside _ from HE.out)⟩
        case measure => simp [intOf]; omega
    · obtain rfl : k = s.size := by omega
      have hr : R = true := by rw [E.out, ← bl_len, List.drop_length]; rfl
      subst hr
      go_wp2
      go_ret
      exact ⟨rfl, n, rfl⟩
theorem rvalued_any (s : ByteArray) (w : World) (hl : s.size ≤ 1000000) : Calls Tryz.prog 66 #[.string s] w fun e w' => e = .returned (.bool (valuedP (bl s))) ∧ ∃ n, w' = w.drewN n := by
  have hc := rvalid_any s w hl
  unfold valuedP
  rw [bl_len]
  generalize Lib.validD (bl s) = V at hc ⊢
  have HC := Lib.hid hc; clear hc
  by_cases h : s.size ≤ 128
  · have hz : (s.size : Int) ≤ 128 := by omega
    rw [decide_eq_true h, Bool.true_and]
    go_enter Tryz.func66, Tryz.ntmps66
    go_wp2_with (first | (go_at_call 86; refine HC.out.mono ?_; rintro e w1 ⟨rfl, hb⟩) | fail)
    go_ret
    exact ⟨rfl, hb⟩
  · have hz : ¬ (s.size : Int) ≤ 128 := by omega
    rw [decide_eq_false h, Bool.false_and]
    go_enter Tryz.func66, Tryz.ntmps66
    go_wp2
    go_ret
    exact ⟨rfl, 0, rfl⟩
end
end
end
end Go.Proofs.YtjgappbomohlcaaGreatDoor
