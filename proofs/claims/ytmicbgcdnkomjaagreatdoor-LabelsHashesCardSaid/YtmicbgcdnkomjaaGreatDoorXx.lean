/-
  xxHash64's small parts, the package's and the plain answers'.
-/
import Derived.Test.YtmicbgcdnkomjaaGreatDoorRot6
import Derived.Test.YtmicbgcdnkomjaaGreatDoorRa0
import Derived.Test.YtmicbgcdnkomjaaGreatDoorGen
namespace Go.Proofs.YtmicbgcdnkomjaaGreatDoor
set_option linter.unusedVariables false
set_option linter.unusedSimpArgs false
open Go.RowKit

theorem W1 (a x c : Nat) : IntKind.u64.wrap ((a : Int) + IntKind.u64.wrap ((x : Int) * (c : Int))) = (((a + x * c) % 18446744073709551616 : Nat) : Int) := by
  rw [wrap_u64_eq, wrap_u64_eq, Int.add_emod_emod]; rfl
theorem W2 (x c : Nat) : IntKind.u64.wrap ((x : Int) * (c : Int)) = ((x * c % 18446744073709551616 : Nat) : Int) := by
  rw [wrap_u64_eq]; rfl
theorem W3 (x c d : Nat) : IntKind.u64.wrap (IntKind.u64.wrap ((x : Int) * (c : Int)) + (d : Int)) = (((x * c + d) % 18446744073709551616 : Nat) : Int) := by
  rw [wrap_u64_eq, wrap_u64_eq, Int.emod_add_emod]; rfl

section
set_option maxHeartbeats 800000
set_option maxRecDepth 100000
theorem round_any (a x : Nat) (w : World) (ha : a < 18446744073709551616) (hx : x < 18446744073709551616) :
    Calls Tryz.prog 98 #[.int .u64 (a : Nat), .int .u64 (x : Nat)] w fun e w' => e = .returned (.int .u64 (xround a x : Nat)) ∧ w = w' := by
  have h1 : IntKind.u64.wrap ((a : Int) + IntKind.u64.wrap ((x : Int) * 14029467366897019727)) = (((a + x * 14029467366897019727) % 18446744073709551616 : Nat) : Int) := W1 a x 14029467366897019727
  have hl : (a + x * 14029467366897019727) % 18446744073709551616 < 18446744073709551616 := Nat.mod_lt _ (by decide)
  have hr : xround a x = rotl ((a + x * 14029467366897019727) % 18446744073709551616) 31 * 11400714785074694791 % 18446744073709551616 := by simp only [xround, q1, q2]
  rw [hr]
  clear hr
  generalize (a + x * 14029467366897019727) % 18446744073709551616 = y at *
  have h2 := W2 (rotl y 31) 11400714785074694791
  have H2 := Lib.hid h2; clear h2
  go_enter Tryz.func98, Tryz.ntmps98
  go_wp2_with fail
  refine (rot64_any y 31 w hl (by decide) (by decide)).mono ?_
  rintro e w' ⟨rfl, rfl⟩
  clear h1
  go_wp2
  go_ret
  exact ⟨ret_u64 H2.out, rfl⟩
theorem merge_any (h a : Nat) (w : World) (hh : h < 18446744073709551616) (ha : a < 18446744073709551616) :
    Calls Tryz.prog 101 #[.int .u64 (h : Nat), .int .u64 (a : Nat)] w fun e w' => e = .returned (.int .u64 (xmerge h a : Nat)) ∧ w = w' := by
  have hr : xmerge h a = ((h ^^^ xround 0 a) * 11400714785074694791 + 9650029242287828579) % 18446744073709551616 := by simp only [xmerge, q1, q4]
  rw [hr]
  clear hr
  have hx := u64_xor_nat h (xround 0 a) hh (xround_lt _ _)
  have h3 := W3 (h ^^^ xround 0 a) 11400714785074694791 9650029242287828579
  have H3 := Lib.hid h3; clear h3
  generalize h ^^^ xround 0 a = y at *
  go_enter Tryz.func101, Tryz.ntmps101
  go_wp2_with fail
  refine (round_any 0 a w (by decide) ha).mono ?_
  rintro e w' ⟨rfl, rfl⟩
  go_wp2
  go_ret
  exact ⟨ret_u64 H3.out, rfl⟩
theorem rround_any (a x : Nat) (w : World) (ha : a < 18446744073709551616) (hx : x < 18446744073709551616) :
    Calls Tryz.prog 76 #[.int .u64 (a : Nat), .int .u64 (x : Nat)] w fun e w' => e = .returned (.int .u64 (xround a x : Nat)) ∧ w = w' := by
  have h1 : IntKind.u64.wrap ((a : Int) + IntKind.u64.wrap ((x : Int) * 14029467366897019727)) = (((a + x * 14029467366897019727) % 18446744073709551616 : Nat) : Int) := W1 a x 14029467366897019727
  have hl : (a + x * 14029467366897019727) % 18446744073709551616 < 18446744073709551616 := Nat.mod_lt _ (by decide)
  have hr : xround a x = rotl ((a + x * 14029467366897019727) % 18446744073709551616) 31 * 11400714785074694791 % 18446744073709551616 := by simp only [xround, q1, q2]
  rw [hr]
  clear hr
  generalize (a + x * 14029467366897019727) % 18446744073709551616 = y at *
  have h2 := W2 (rotl y 31) 11400714785074694791
  have H2 := Lib.hid h2; clear h2
  go_enter Tryz.func76, Tryz.ntmps76
  go_wp2_with fail
  refine (left_any y 31 w hl (by decide) (by decide)).mono ?_
  rintro e w' ⟨rfl, rfl⟩
  clear h1
  go_wp2
  go_ret
  exact ⟨ret_u64 H2.out, rfl⟩
theorem rmerge_any (h a : Nat) (w : World) (hh : h < 18446744073709551616) (ha : a < 18446744073709551616) :
    Calls Tryz.prog 79 #[.int .u64 (h : Nat), .int .u64 (a : Nat)] w fun e w' => e = .returned (.int .u64 (xmerge h a : Nat)) ∧ w = w' := by
  have hr : xmerge h a = ((h ^^^ xround 0 a) * 11400714785074694791 + 9650029242287828579) % 18446744073709551616 := by simp only [xmerge, q1, q4]
  rw [hr]
  clear hr
  have hx := u64_xor_nat h (xround 0 a) hh (xround_lt _ _)
  have h3 := W3 (h ^^^ xround 0 a) 11400714785074694791 9650029242287828579
  have H3 := Lib.hid h3; clear h3
  generalize h ^^^ xround 0 a = y at *
  go_enter Tryz.func79, Tryz.ntmps79
  go_wp2_with fail
  refine (rround_any 0 a w (by decide) ha).mono ?_
  rintro e w' ⟨rfl, rfl⟩
  go_wp2
  go_ret
  exact ⟨ret_u64 H3.out, rfl⟩
theorem settle_eq (h y z u v t : Nat) (hz : h ^^^ (h / 8589934592) = z) (hy : z * 14029467366897019727 % 18446744073709551616 = y) (hv : y ^^^ (y / 536870912) = v) (hu : v * 1609587929392839161 % 18446744073709551616 = u) (ht : u ^^^ (u / 4294967296) = t) : xsettle h = t := by
  simp only [xsettle, q2, q3, hz, hy, hv, hu, ht]
theorem settled_any (h : Nat) (w : World) (hh : h < 18446744073709551616) :
    Calls Tryz.prog 74 #[.int .u64 (h : Nat)] w fun e w' => e = .returned (.int .u64 (xsettle h : Nat)) ∧ w = w' := by
  obtain ⟨z, hz⟩ : ∃ z, h ^^^ (h / 8589934592) = z := ⟨_, rfl⟩
  obtain ⟨y, hy⟩ : ∃ y, z * 14029467366897019727 % 18446744073709551616 = y := ⟨_, rfl⟩
  obtain ⟨v, hv⟩ : ∃ v, y ^^^ (y / 536870912) = v := ⟨_, rfl⟩
  obtain ⟨u, hu⟩ : ∃ u, v * 1609587929392839161 % 18446744073709551616 = u := ⟨_, rfl⟩
  obtain ⟨t, ht⟩ : ∃ t, u ^^^ (u / 4294967296) = t := ⟨_, rfl⟩
  rw [settle_eq h y z u v t hz hy hv hu ht]
  have l1 : y < 18446744073709551616 := by rw [← hy]; exact Nat.mod_lt _ (by decide)
  have l2 : u < 18446744073709551616 := by rw [← hu]; exact Nat.mod_lt _ (by decide)
  have x1 : bits .xor .u64 (h : Int) ((h : Int) / 8589934592) = ((z : Nat) : Int) := by rw [← hz]; exact u64_xor_nat h (h / 8589934592) hh (by omega)
  have m1 : IntKind.u64.wrap ((z : Int) * 14029467366897019727) = (y : Int) := by rw [← hy]; exact W2 z 14029467366897019727
  have x2 : bits .xor .u64 (y : Int) ((y : Int) / 536870912) = (v : Int) := by rw [← hv]; exact u64_xor_nat y (y / 536870912) l1 (by omega)
  have m2 : IntKind.u64.wrap ((v : Int) * 1609587929392839161) = (u : Int) := by rw [← hu]; exact W2 v 1609587929392839161
  have x3 : bits .xor .u64 (u : Int) ((u : Int) / 4294967296) = (t : Int) := by rw [← ht]; exact u64_xor_nat u (u / 4294967296) l2 (by omega)
  clear hz hy hv hu ht
  go_enter Tryz.func74, Tryz.ntmps74
  go_wp2
  go_ret
  exact ⟨rfl, rfl⟩
end
end Go.Proofs.YtmicbgcdnkomjaaGreatDoor
