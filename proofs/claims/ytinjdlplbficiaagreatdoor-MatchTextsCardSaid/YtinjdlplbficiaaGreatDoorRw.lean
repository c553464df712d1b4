/-
  Bare, Word: the plain answers' own.
-/
import Derived.Test.YtinjdlplbficiaaGreatDoorRn
import Derived.Test.YtinjdlplbficiaaGreatDoorFi0
namespace Go.Proofs.YtinjdlplbficiaaGreatDoor
set_option linter.unusedVariables false
set_option linter.unusedSimpArgs false
open Go.RowKit
def szV : Value → Nat
  | .string s => s.size
  | _ => 0
theorem bl_tail (s : ByteArray) (n : Nat) : bl (s.extract n s.size) = (bl s).drop n := by rw [extract_tail, bl_mk]
theorem tail_size (s : ByteArray) (n : Nat) : (s.extract n s.size).size = s.size - n := by rw [← bl_len, bl_tail, List.length_drop, bl_len]
theorem bareP_nil : bareP [] = [] := rfl
theorem bareP_if (c : UInt8) (r : Bs) : bareP (c :: r) = if c = 32 then bareP r else c :: r := by
  unfold bareP; rw [List.dropWhile_cons]; by_cases h : c = 32 <;> simp [h]
section
set_option maxHeartbeats 1600000
set_option maxRecDepth 100000
theorem rbare_any (s : ByteArray) (w : World) (hl : s.size ≤ 1000000) : Calls Tryz.prog 15 #[.string s] w fun e w' => e = .returned (.string (mkB (bareP (bl s)))) ∧ w = w' := by
  obtain ⟨R, hR⟩ : ∃ R, R = bareP (bl s) := ⟨_, rfl⟩
  rw [← hR]
  have HR := Lib.hid hR; clear hR
  go_enter Tryz.func15, Tryz.ntmps15
  go_wp2
  go_loop [0] (fun s0 => ∃ t : ByteArray, s0 = .string t ∧ t.size ≤ s.size ∧ Aside (R = bareP (bl t))) (fun s0 => szV s0)
  case atStart => exact ⟨s, rfl, Nat.le_refl _, HR.out⟩
  case round =>
    obtain ⟨t, rfl, ht, E⟩ := hrel
    by_cases hlt : 0 < t.size
    · have k1 : (0 : Int) < (t.size : Int) := by omega
      have k2 : (1 : Int) ≤ (t.size : Int) := by omega
      have hix : ∀ u, (Instr.index 9 (.string t) (.int .i64 0)).run Tryz.prog u = .ok (.int .u8 (byN t 0 : Nat)) u := fun u => run_index_s u t .i64 0 hlt
      have hd := drop_byte hlt
      rw [List.drop_zero] at hd
      have hc := byN_lt t 0
      have hE := E.out.trans (by rw [hd, bareP_if])
      generalize byN t 0 = c at hix hd hc hE
      by_cases h : c = 32
      · subst h
        have hE2 : R = bareP (bl (t.extract 1 t.size)) := by rw [hE, show UInt8.ofNat 32 = 32 from rfl, if_pos rfl, bl_tail]
        have hsz := tail_size t 1
        have HE := Lib.hid hE2; clear hE hE2 hd E
        have HSZ := Lib.hid hsz; clear hsz
        go_wp2
        go_round
        case rel => exact ⟨t.extract 1 t.size, rfl, by rw [HSZ.out]; omega, (show Aside _ from HE.out)⟩
        case measure => simp only [szV]; rw [HSZ.out]; omega
      · have g1 : ((c : Int) == 32) = false := beq_eq_false_iff_ne.2 (by omega)
        have hr : R = bl t := by
          have hd2 := hd
          rw [hE, if_neg]
          · exact hd2.symm
          intro e
          have := congrArg UInt8.toNat e
          rw [ofNat_toNat hc] at this
          exact h this
        have hr2 : mkB R = t := by rw [hr, mk_bl]
        have HR2 := Lib.hid hr2; clear hE hr hr2 hd E
        go_wp2
        go_ret
        exact ⟨by rw [HR2.out]; rfl, rfl⟩
    · have z : ¬ (0 : Int) < (t.size : Int) := by omega
      obtain rfl := size_zero (s := t) (by omega)
      have hr : R = [] := by rw [E.out]; rfl
      subst hr
      clear z hlt E
      go_wp2
      go_ret
      exact ⟨rfl, rfl⟩
theorem rword_any (s : ByteArray) (w : World) (hl : s.size ≤ 1000000) : Calls Tryz.prog 33 #[.string s] w fun e w' => e = .returned (.tuple #[.string (s.extract 0 (wordN (bl s))), .string (s.extract (wordN (bl s)) s.size)]) ∧ ∃ n, w' = w.drewN n := by
  obtain ⟨R, hR⟩ : ∃ R, R = wordN (bl s) := ⟨_, rfl⟩
  rw [← hR]
  have hst : R = 0 + wordN ((bl s).drop 0) := by rw [hR]; simp
  have HST := Lib.hid hst; clear hst hR
  go_enter Tryz.func33, Tryz.ntmps33
  go_wp2
  go_loop [4] (fun s4 => ∃ k : Nat, s4 = .int .i64 k ∧ k ≤ s.size ∧ Aside (R = k + wordN ((bl s).drop k))) (fun s4 => s.size - (intOf s4).toNat)
  case atStart => exact ⟨0, rfl, by omega, HST.out⟩
  case round =>
    obtain ⟨k, rfl, hk, E⟩ := hrel
    have k0 : (0 : Int) ≤ (k : Int) := by omega
    by_cases hlt : k < s.size
    · have k1 : (k : Int) < (s.size : Int) := by omega
      have k2 : (k : Int) ≤ (s.size : Int) := by omega
      have hix := fun (u : World) => run_index_s u s .i64 k hlt
      have hc := byN_lt s k
      have hle := letter_any (byN s k) w
      have hE := E.out.trans (by rw [drop_byte hlt, wordN_cons, ofNat_toNat hc])
      cases hL : letterN (byN s k) with
      | false =>
        rw [hL] at hle hE
        have hr : R = k := by rw [hE]; simp
        subst hr
        generalize byN s R = c at hix hc hle
        have HL := Lib.hid hle; clear hle hL hE E
        go_wp2_with (first | (go_at_call 40; refine HL.out.mono ?_; rintro e w1 ⟨rfl, rfl⟩) | fail)
        go_quiet (fail)
        go_wp2
        go_ret2
        exact ⟨rfl, _, rfl⟩
      | true =>
        rw [hL] at hle hE
        have hE2 : R = (k + 1) + wordN ((bl s).drop (k + 1)) := by rw [hE, if_pos rfl]; omega
        generalize byN s k = c at hix hc hle
        have HE := Lib.hid hE2
        have HL := Lib.hid hle; clear hle hL hE E hE2
        go_wp2_with (first | (go_at_call 40; refine HL.out.mono ?_; rintro e w1 ⟨rfl, rfl⟩) | fail)
        go_round
        case rel => exact ⟨k + 1, by go_num, by omega, (show Aside _ from HE.out)⟩
        case measure => simp [intOf]; omega
    · obtain rfl : k = s.size := by omega
      have hr : R = s.size := by rw [E.out, ← bl_len, List.drop_length]; rfl
      have k2 : (s.size : Int) ≤ (s.size : Int) := by omega
      subst hr
      go_wp2
      go_quiet (fail)
      go_wp2
      go_ret2
      have e1 : s.extract 0 s.size = s := by rw [extract_head, List.take_of_length_le (Nat.le_of_eq (bl_len s)), mk_bl]
      have e2 : s.extract s.size s.size = ByteArray.empty := by rw [extract_tail, List.drop_eq_nil_of_le (Nat.le_of_eq (bl_len s))]; rfl
      exact ⟨by rw [e1, e2]; rfl, _, rfl⟩
end
end Go.Proofs.YtinjdlplbficiaaGreatDoor
