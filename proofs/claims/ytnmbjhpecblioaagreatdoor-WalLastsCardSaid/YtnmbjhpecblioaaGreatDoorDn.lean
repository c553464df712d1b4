/-
  What is a file's name, byte by byte.
-/
import Derived.Test.YtnmbjhpecblioaaGreatDoorDk
import Derived.Test.YtnmbjhpecblioaaGreatDoorIx
namespace Go.Proofs.YtnmbjhpecblioaaGreatDoor
set_option linter.unusedVariables false
set_option linter.unusedSimpArgs false
open Go.RowKit
section
set_option maxHeartbeats 1600000
set_option maxRecDepth 100000
theorem title_at {c : Nat} : titleC c = true ↔ (97 ≤ c ∧ c ≤ 122) ∨ (48 ≤ c ∧ c ≤ 57) ∨ c = 45 ∨ c = 46 := by
  unfold titleC; simp only [Bool.or_eq_true, Bool.and_eq_true, decide_eq_true_eq, beq_iff_eq, or_assoc]
theorem isname_any (s : ByteArray) (w : World) : Calls Tryz.prog 52 #[.string s] w fun e w' => e = .returned (.bool (titleB (bl s))) ∧ w = w' := by
  by_cases h0 : s.size = 0
  · obtain rfl := size_zero h0
    have ht : titleB (bl ⟨#[]⟩) = false := rfl
    rw [ht]
    go_enter Tryz.func52, Tryz.ntmps52
    go_wp2
    go_ret
    exact ⟨rfl, rfl⟩
  · by_cases h1 : s.size ≤ 32
    · obtain ⟨R, hR⟩ : ∃ R, R = titleB (bl s) := ⟨_, rfl⟩
      rw [← hR]
      have hst : R = (((bl s).drop 0).all fun c => titleC c.toNat) := by
        rw [hR]; unfold titleB; rw [bl_len, decide_eq_true (by omega : 1 ≤ s.size), decide_eq_true h1]; simp
      have HST := Lib.hid hst
      clear hst hR
      have k0 : ¬ (s.size : Int) = 0 := by omega
      have k1 : ¬ (32 : Int) < (s.size : Int) := by omega
      go_enter Tryz.func52, Tryz.ntmps52
      go_wp2
      go_loopw [15] (fun s15 wr => ∃ k : Nat, s15 = .int .i64 k ∧ k ≤ s.size ∧ wr = w ∧ Aside (R = (((bl s).drop k).all fun c => titleC c.toNat))) (fun s15 _ => s.size - (intOf s15).toNat)
      case atStart => exact ⟨0, rfl, by omega, rfl, HST.out⟩
      case round =>
        obtain ⟨k, rfl, hk, rfl, E⟩ := hrel
        have k2 : (0 : Int) ≤ (k : Int) := by omega
        by_cases hlt : k < s.size
        · have k3 : (k : Int) < (s.size : Int) := by omega
          have hix : ∀ u, (Instr.index 9 (.string s) (.int .i64 (k : Nat))).run Tryz.prog u = .ok (.int .u8 (byN s k : Nat)) u := fun u => run_index_s u s .i64 k hlt
          have hE := E.out
          rw [drop_byte hlt, List.all_cons, ofNat_toNat (byN_lt s k)] at hE
          have hc := byN_lt s k
          generalize byN s k = c at hix hE hc
          clear E
          by_cases hT : titleC c = true
          · rw [hT, Bool.true_and] at hE
            have HE := Lib.hid hE; clear hE
            rcases title_at.1 hT with ⟨a1, a2⟩ | ⟨a1, a2⟩ | rfl | rfl
            · clear hT
              have b1 : ¬ (c : Int) < 97 := by omega
              have b2 : ¬ (122 : Int) < (c : Int) := by omega
              go_wp2_with fail
              go_roundw
              case rel => exact ⟨k + 1, by go_num, by omega, trivial, (show Aside _ from HE.out)⟩
              case measure => simp [intOf]; omega
            · clear hT
              have b1 : (c : Int) < 97 := by omega
              have b2 : ¬ (57 : Int) < (c : Int) := by omega
              have b3 : ¬ (c : Int) < 48 := by omega
              go_wp2_with fail
              go_roundw
              case rel => exact ⟨k + 1, by go_num, by omega, trivial, (show Aside _ from HE.out)⟩
              case measure => simp [intOf]; omega
            · clear hT
              go_wp2_with fail
              go_roundw
              case rel => exact ⟨k + 1, by go_num, by omega, trivial, (show Aside _ from HE.out)⟩
              case measure => simp [intOf]; omega
            · clear hT
              go_wp2_with fail
              go_roundw
              case rel => exact ⟨k + 1, by go_num, by omega, trivial, (show Aside _ from HE.out)⟩
              case measure => simp [intOf]; omega
          · rw [Bool.eq_false_iff.2 hT, Bool.false_and] at hE
            subst hE
            have hn : ¬ ((97 ≤ c ∧ c ≤ 122) ∨ (48 ≤ c ∧ c ≤ 57) ∨ c = 45 ∨ c = 46) := fun h => hT (title_at.2 h)
            clear hT
            have b4 : ((c : Int) != 45) = true := bne_iff_ne.2 (by omega)
            have b5 : ((c : Int) != 46) = true := bne_iff_ne.2 (by omega)
            by_cases d1 : c < 97
            · have b1 : (c : Int) < 97 := by omega
              by_cases d2 : c < 48
              · have b3 : (c : Int) < 48 := by omega
                go_wp2
                go_ret
                exact ⟨rfl, rfl⟩
              · have b3 : ¬ (c : Int) < 48 := by omega
                have b2 : (57 : Int) < (c : Int) := by omega
                go_wp2
                go_ret
                exact ⟨rfl, rfl⟩
            · have b1 : ¬ (c : Int) < 97 := by omega
              have b0 : (122 : Int) < (c : Int) := by omega
              have b3 : ¬ (c : Int) < 48 := by omega
              have b2 : (57 : Int) < (c : Int) := by omega
              go_wp2
              go_ret
              exact ⟨rfl, rfl⟩
        · obtain rfl : k = s.size := by omega
          have hE := E.out
          rw [← bl_len, List.drop_length, List.all_nil] at hE
          subst hE
          go_wp2
          go_ret
          exact ⟨rfl, rfl⟩
    · have ht : titleB (bl s) = false := by unfold titleB; rw [bl_len, decide_eq_false h1]; simp
      rw [ht]
      have k0 : ¬ (s.size : Int) = 0 := by omega
      have k1 : (32 : Int) < (s.size : Int) := by omega
      go_enter Tryz.func52, Tryz.ntmps52
      go_wp2
      go_ret
      exact ⟨rfl, rfl⟩
end
end Go.Proofs.YtnmbjhpecblioaaGreatDoor
