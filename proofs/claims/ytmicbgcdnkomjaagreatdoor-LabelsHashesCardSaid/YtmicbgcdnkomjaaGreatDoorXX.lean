/-
  xxHash64 as the package reckons it.
-/
import Derived.Test.YtmicbgcdnkomjaaGreatDoorXs
namespace Go.Proofs.YtmicbgcdnkomjaaGreatDoor
set_option linter.unusedVariables false
set_option linter.unusedSimpArgs false
open Go.RowKit

theorem xend_lt {h : Nat} (hh : h < 18446744073709551616) (xs : List UInt8) : xend h xs < 18446744073709551616 := by
  unfold xend
  simp only
  split
  · exact tailsB_lt (tail4_lt _ _) _
  · exact tailsB_lt (tails8_lt hh _ _) _
theorem W5 (a b : Nat) : IntKind.u64.wrap ((a : Int) + (b : Int)) = (((a + b) % 18446744073709551616 : Nat) : Int) := by
  rw [wrap_u64_eq]; rfl
theorem xx_small {xs : List UInt8} {n : Nat} (hn : xs.length = n) (h : n < 32) : xx xs = xsettle (xend ((q5 + n) % 18446744073709551616) xs) := by
  simp only [xx, hn]
  rw [if_neg (by omega), if_neg (by omega)]
theorem xx_large {xs : List UInt8} {n : Nat} (hn : xs.length = n) (h : 32 ≤ n) : xx xs = xsettle (xend ((laneEnd (lanes la0 (n / 32) xs) + n) % 18446744073709551616) (xs.drop (32 * (n / 32)))) := by
  simp only [xx, hn]
  rw [if_pos h, if_pos h]

section
set_option maxHeartbeats 1600000
set_option maxRecDepth 100000
theorem xx_any (w : World) (A : Option Addr) (c n : Nat) (xs : List UInt8) (hm : xs.length = n) (hx : Rd w A (xs.map Bv)) (hmc : n ≤ c) (hc : c ≤ 9223372036854775807) :
    Calls Tryz.prog 47 #[.slice A n c] w fun e w' => e = .returned (.int .u64 (xx xs : Nat)) ∧ Below w.heap.size w w' := by
  by_cases h32 : n < 32
  · have hend := xx_small hm h32
    obtain ⟨g, hg⟩ : ∃ g, g = (q5 + n) % 18446744073709551616 := ⟨_, rfl⟩
    rw [← hg] at hend
    have hgl : g < 18446744073709551616 := by rw [hg]; exact Nat.mod_lt _ (by decide)
    have hw : IntKind.u64.wrap (2870177450012600261 + (n : Int)) = (g : Int) := by rw [hg]; exact W5 2870177450012600261 n
    have HEND := Lib.hid hend; clear hend hg
    have HM := Lib.hid hm; clear hm
    go_enter Tryz.func47, Tryz.ntmps47
    go_wp2_with fail
    refine (ended_any w g A c n xs hgl HM.out hx hmc hc).mono ?_
    rintro _ w' ⟨rfl, rfl⟩
    have hxl := xend_lt hgl xs
    generalize xend g xs = y at *
    go_wp2_with fail
    refine (settled_any y w hxl).mono ?_
    rintro _ w' ⟨rfl, rfl⟩
    go_wp2
    go_ret
    exact ⟨by rw [HEND.out]; rfl, Below.refl _ _⟩
  · have h32' : 32 ≤ n := by omega
    have hend := xx_large hm h32'
    obtain ⟨q, hq⟩ : ∃ q, q = n / 32 := ⟨_, rfl⟩
    rw [← hq] at hend
    have hst := stripes_any w A c n xs hm hx hmc hc
    rw [← hq] at hst
    have hql : 32 * q ≤ n := by omega
    have hdl : (xs.drop (32 * q)).length = n - 32 * q := by rw [List.length_drop, hm]
    have hll := laneEnd_lt (lanes la0 q xs)
    generalize laneEnd (lanes la0 q xs) = h0 at *
    obtain ⟨g, hg⟩ : ∃ g, g = (h0 + n) % 18446744073709551616 := ⟨_, rfl⟩
    rw [← hg] at hend
    have hgl : g < 18446744073709551616 := by rw [hg]; exact Nat.mod_lt _ (by decide)
    have hw : IntKind.u64.wrap ((h0 : Int) + (n : Int)) = (g : Int) := by rw [hg]; exact W5 h0 n
    have HEND := Lib.hid hend; clear hend hg
    have HM := Lib.hid hm; clear hm
    have HDL := Lib.hid hdl; clear hdl
    have HST := Lib.hid hst; clear hst
    have HQ := Lib.hid hq; clear hq
    clear h32
    go_enter Tryz.func47, Tryz.ntmps47
    go_wp2_with fail
    refine HST.out.mono ?_
    rintro _ w1 ⟨A2, rfl, hrd, hb⟩
    go_wp2_with fail
    refine (ended_any w1 g A2 (c - 32 * q) (n - 32 * q) (xs.drop (32 * q)) hgl HDL.out hrd (by omega) (by omega)).mono ?_
    rintro _ w' ⟨rfl, rfl⟩
    have hxl := xend_lt hgl (xs.drop (32 * q))
    generalize xend g (xs.drop (32 * q)) = y at *
    go_wp2_with fail
    refine (settled_any y w1 hxl).mono ?_
    rintro _ w' ⟨rfl, rfl⟩
    go_wp2
    go_ret
    exact ⟨by rw [HEND.out]; rfl, hb⟩
end
end Go.Proofs.YtmicbgcdnkomjaaGreatDoor
