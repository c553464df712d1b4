/-
  Letters and digits as bytes again: the package's Unarmor and Unhex.
-/
import Derived.Test.YtmgjlldccmgpcaaDoorUw
import Derived.Shelf.GgSortFunc.Bridge
namespace Go.Proofs.YtmgjlldccmgpcaaDoor
set_option linter.unusedVariables false
set_option linter.unusedSimpArgs false
open Go.RowKit
theorem ofNat_small {r : Nat} (h : r < 128) : (UInt8.ofNat r).toNat = r := by simp; omega
theorem armT1 {r : Nat} (h1 : 65 ≤ r) (h2 : r ≤ 90) : numT armV 6 r = .tuple #[.int .u32 ((r : Int) - 65), .bool true] := by
  have e : armV (UInt8.ofNat r) = r - 65 := by unfold armV; rw [ofNat_small (by omega), if_pos ⟨h1, h2⟩]
  unfold numT; rw [e, if_pos ⟨by omega, by omega⟩, Int.ofNat_sub h1]; rfl
theorem armT2 {r : Nat} (h1 : 97 ≤ r) (h2 : r ≤ 122) : numT armV 6 r = .tuple #[.int .u32 ((r : Int) - 97 + 26), .bool true] := by
  have e : armV (UInt8.ofNat r) = r - 97 + 26 := by unfold armV; rw [ofNat_small (by omega), if_neg (by omega), if_pos ⟨h1, h2⟩]
  unfold numT; rw [e, if_pos ⟨by omega, by omega⟩, show ((r - 97 + 26 : Nat) : Int) = (r : Int) - 97 + 26 by omega]
theorem armT3 {r : Nat} (h1 : 48 ≤ r) (h2 : r ≤ 57) : numT armV 6 r = .tuple #[.int .u32 ((r : Int) - 48 + 52), .bool true] := by
  have e : armV (UInt8.ofNat r) = r - 48 + 52 := by unfold armV; rw [ofNat_small (by omega), if_neg (by omega), if_neg (by omega), if_pos ⟨h1, h2⟩]
  unfold numT; rw [e, if_pos ⟨by omega, by omega⟩, show ((r - 48 + 52 : Nat) : Int) = (r : Int) - 48 + 52 by omega]
theorem armT4 {r : Nat} (h1 : r = 45) : numT armV 6 r = .tuple #[.int .u32 62, .bool true] := by
  subst h1; rfl
theorem armT5 {r : Nat} (h1 : r = 95) : numT armV 6 r = .tuple #[.int .u32 63, .bool true] := by
  subst h1; rfl
theorem armT0 {r : Nat} (h : ¬ (65 ≤ r ∧ r ≤ 90) ∧ ¬ (97 ≤ r ∧ r ≤ 122) ∧ ¬ (48 ≤ r ∧ r ≤ 57) ∧ r ≠ 45 ∧ r ≠ 95) : numT armV 6 r = .tuple #[.int .u32 0, .bool false] := by
  unfold numT
  rw [if_neg]
  rintro ⟨h1, h2⟩
  unfold armV at h2
  rw [ofNat_small h1, if_neg h.1, if_neg h.2.1, if_neg h.2.2.1, if_neg h.2.2.2.1, if_neg h.2.2.2.2] at h2
  omega
theorem hexT1 {r : Nat} (h1 : 48 ≤ r) (h2 : r ≤ 57) : numT hexV 4 r = .tuple #[.int .u32 ((r : Int) - 48), .bool true] := by
  have e : hexV (UInt8.ofNat r) = r - 48 := by unfold hexV; rw [ofNat_small (by omega), if_pos ⟨h1, h2⟩]
  unfold numT; rw [e, if_pos ⟨by omega, by omega⟩, Int.ofNat_sub h1]; rfl
theorem hexT2 {r : Nat} (h1 : 97 ≤ r) (h2 : r ≤ 102) : numT hexV 4 r = .tuple #[.int .u32 ((r : Int) - 97 + 10), .bool true] := by
  have e : hexV (UInt8.ofNat r) = r - 97 + 10 := by unfold hexV; rw [ofNat_small (by omega), if_neg (by omega), if_pos ⟨h1, h2⟩]
  unfold numT; rw [e, if_pos ⟨by omega, by omega⟩, show ((r - 97 + 10 : Nat) : Int) = (r : Int) - 97 + 10 by omega]
theorem hexT0 {r : Nat} (h : ¬ (48 ≤ r ∧ r ≤ 57) ∧ ¬ (97 ≤ r ∧ r ≤ 102)) : numT hexV 4 r = .tuple #[.int .u32 0, .bool false] := by
  unfold numT
  rw [if_neg]
  rintro ⟨h1, h2⟩
  unfold hexV at h2
  rw [ofNat_small h1, if_neg h.1, if_neg h.2] at h2
  omega
section
set_option maxHeartbeats 1600000
set_option maxRecDepth 100000
theorem arm_num : Num 45 armV 6 := by
  intro r W
  rcases (show r < 45 ∨ r = 45 ∨ (46 ≤ r ∧ r ≤ 47) ∨ (48 ≤ r ∧ r ≤ 57) ∨ (58 ≤ r ∧ r ≤ 64) ∨ (65 ≤ r ∧ r ≤ 90) ∨ (91 ≤ r ∧ r ≤ 94) ∨ r = 95 ∨ r = 96 ∨ (97 ≤ r ∧ r ≤ 122) ∨ 123 ≤ r by omega) with h | h | h | h | h | h | h | h | h | h | h
  all_goals
    first | rw [armT1 (by omega) (by omega)] | rw [armT2 (by omega) (by omega)] | rw [armT3 (by omega) (by omega)] | rw [armT4 (by omega)] | rw [armT5 (by omega)] | rw [armT0 (by omega)]
    first | have c1 : (65 : Int) ≤ (r : Int) := by omega | have c1 : ¬ (65 : Int) ≤ (r : Int) := by omega
    first | have c2 : (r : Int) ≤ 90 := by omega | have c2 : ¬ (r : Int) ≤ 90 := by omega
    first | have c3 : (97 : Int) ≤ (r : Int) := by omega | have c3 : ¬ (97 : Int) ≤ (r : Int) := by omega
    first | have c4 : (r : Int) ≤ 122 := by omega | have c4 : ¬ (r : Int) ≤ 122 := by omega
    first | have c5 : (48 : Int) ≤ (r : Int) := by omega | have c5 : ¬ (48 : Int) ≤ (r : Int) := by omega
    first | have c6 : (r : Int) ≤ 57 := by omega | have c6 : ¬ (r : Int) ≤ 57 := by omega
    first | have c7 : ((r : Int) == 45) = true := by rw [beq_iff_eq]; omega | have c7 : ((r : Int) == 45) = false := by rw [beq_eq_false_iff_ne]; omega
    first | have c8 : ((r : Int) == 95) = true := by rw [beq_iff_eq]; omega | have c8 : ((r : Int) == 95) = false := by rw [beq_eq_false_iff_ne]; omega
    clear h
    go_enter Tryd.func45, Tryd.ntmps45
    go_wp2
    go_ret2
    exact ⟨rfl, rfl⟩
theorem hex_num : Num 49 hexV 4 := by
  intro r W
  rcases (show r < 48 ∨ (48 ≤ r ∧ r ≤ 57) ∨ (58 ≤ r ∧ r ≤ 96) ∨ (97 ≤ r ∧ r ≤ 102) ∨ 103 ≤ r by omega) with h | h | h | h | h
  all_goals
    first | rw [hexT1 (by omega) (by omega)] | rw [hexT2 (by omega) (by omega)] | rw [hexT0 (by omega)]
    first | have c3 : (97 : Int) ≤ (r : Int) := by omega | have c3 : ¬ (97 : Int) ≤ (r : Int) := by omega
    first | have c4 : (r : Int) ≤ 102 := by omega | have c4 : ¬ (r : Int) ≤ 102 := by omega
    first | have c5 : (48 : Int) ≤ (r : Int) := by omega | have c5 : ¬ (48 : Int) ≤ (r : Int) := by omega
    first | have c6 : (r : Int) ≤ 57 := by omega | have c6 : ¬ (r : Int) ≤ 57 := by omega
    clear h
    go_enter Tryd.func49, Tryd.ntmps49
    go_wp2
    go_ret2
    exact ⟨rfl, rfl⟩
theorem unarmor_any (s : ByteArray) (w : World) (hl : s.size ≤ 1000000) : Calls Tryd.prog 26 #[.string s] w (BytesRes w (unP 6 armV (bl s))) := by
  have eg : ∀ args w, (callFunc 45 args).run Tryd.prog w = .ok (.enter 45 args) w := enters_of Tryd.func45 (by kernel_rfl) rfl
  have hc := unwritten_6 45 armV s w hl eg arm_num (fun c h => by unfold armV; rw [if_neg (by omega), if_neg (by omega), if_neg (by omega), if_neg (by omega), if_neg (by omega)]; decide)
  generalize unP 6 armV (bl s) = R at hc
  have HC := Lib.hid hc; clear hc eg
  go_enter Tryd.func26, Tryd.ntmps26
  go_wp2_with fail
  refine HC.out.mono ?_
  rintro e w1 ⟨A, c, rfl, hr, hb⟩
  have HR := Lib.hid hr; clear hr
  go_wp2
  go_ret2
  exact ⟨A, c, rfl, HR.out, hb⟩
theorem unhex_any (s : ByteArray) (w : World) (hl : s.size ≤ 1000000) : Calls Tryd.prog 28 #[.string s] w (BytesRes w (unP 4 hexV (bl s))) := by
  have eg : ∀ args w, (callFunc 49 args).run Tryd.prog w = .ok (.enter 49 args) w := enters_of Tryd.func49 (by kernel_rfl) rfl
  have hc := unwritten_4 49 hexV s w hl eg hex_num (fun c h => by unfold hexV; rw [if_neg (by omega), if_neg (by omega)]; decide)
  generalize unP 4 hexV (bl s) = R at hc
  have HC := Lib.hid hc; clear hc eg
  go_enter Tryd.func28, Tryd.ntmps28
  go_wp2_with fail
  refine HC.out.mono ?_
  rintro e w1 ⟨A, c, rfl, hr, hb⟩
  have HR := Lib.hid hr; clear hr
  go_wp2
  go_ret2
  exact ⟨A, c, rfl, HR.out, hb⟩
end
end Go.Proofs.YtmgjlldccmgpcaaDoor
