/-
  xxHash64 as the plain answers reckon it.
-/
import Derived.Test.YtmicbgcdnkomjaaGreatDoorXX
namespace Go.Proofs.YtmicbgcdnkomjaaGreatDoor
set_option linter.unusedVariables false
set_option linter.unusedSimpArgs false
open Go.RowKit

section
set_option maxHeartbeats 1600000
set_option maxRecDepth 100000
theorem rxx_small (w : World) (A : Option Addr) (c n : Nat) (zs : List UInt8) (hm : zs.length = n) (hx : Rd w A (zs.map Bv)) (hmc : n ≤ c) (hc : c ≤ 9223372036854775807) (h32 : n < 32) :
    Calls Tryz.prog 48 #[.slice A n c] w fun e w' => e = .returned (.int .u64 (xx zs : Nat)) ∧ Below w.heap.size w w' := by
  have hfin := xx_small hm h32
  obtain ⟨h, hhe⟩ : ∃ h, h = (q5 + n) % 18446744073709551616 := ⟨_, rfl⟩
  rw [← hhe] at hfin
  have hh : h < 18446744073709551616 := by rw [hhe]; exact Nat.mod_lt _ (by decide)
  have hw : IntKind.u64.wrap (2870177450012600261 + (n : Int)) = (h : Int) := by rw [hhe]; exact W5 2870177450012600261 n
  have HFIN := Lib.hid hfin; clear hfin hhe
  have HM := Lib.hid hm; clear hm
  have hdec : decide ((32 : Int) ≤ (n : Int)) = false := by simp; omega
  have hbW := Below.refl w.heap.size w
  go_enter Tryz.func48, Tryz.ntmps48
  go_wp2
  clear hdec hw
  go_loopw [0, 3] (fun s v wr => ∃ (j : Nat) (A' : Option Addr) (c' : Nat), 8 * j ≤ n ∧ n - 8 * j ≤ c' ∧ c' ≤ 9223372036854775807 ∧ v = .int .u64 (tails8 h j zs : Nat) ∧ s = .slice A' (n - 8 * j) c' ∧ Rd w A' ((zs.drop (8 * j)).map Bv) ∧ wr = w) (fun s _ _ => match s with | .slice _ m _ => m | _ => 0)
  case atStart => exact ⟨0, A, c, by omega, by omega, hc, rfl, rfl, hx, rfl⟩
  case round =>
    obtain ⟨j, A', c', hj, hjc, hc', rfl, rfl, hrd, rfl⟩ := hrel
    have hlen : (zs.drop (8 * j)).length = n - 8 * j := by rw [List.length_drop, HM.out]
    have hgl := tails8_lt hh j zs
    by_cases hlt : 8 ≤ n - 8 * j
    · have hst : tails8 h (j + 1) zs = tail8 (tails8 h j zs) (zs.drop (8 * j)) := tails8_succ h j zs
      have hll := leN_take_lt (zs.drop (8 * j)) 8 (by decide)
      generalize tails8 h j zs = g at *
      obtain ⟨l, hl⟩ : ∃ l, leN ((zs.drop (8 * j)).take 8) = l := ⟨_, rfl⟩
      obtain ⟨z, hz⟩ : ∃ z, g ^^^ xround 0 l = z := ⟨_, rfl⟩
      obtain ⟨r, hr⟩ : ∃ r, rotl z 27 = r := ⟨_, rfl⟩
      rw [tail8_eq g _ l z r hl hz hr] at hst
      rw [hl] at hll
      have hx1 := u64_xor_nat g (xround 0 l) hgl (xround_lt _ _)
      have hzl := xor_lt64 hgl (xround_lt 0 l)
      rw [hz] at hx1 hzl
      have w3 : IntKind.u64.wrap (IntKind.u64.wrap ((r : Int) * 11400714785074694791) + 9650029242287828579) = (((r * 11400714785074694791 + 9650029242287828579) % 18446744073709551616 : Nat) : Int) := W3 r 11400714785074694791 9650029242287828579
      obtain ⟨g1, hg1⟩ : ∃ g1, g1 = tails8 h (j + 1) zs := ⟨_, rfl⟩
      rw [← hst, ← hg1] at w3
      have HL := Lib.hid hl; clear hl
      have HZ := Lib.hid hz; clear hz
      have HR := Lib.hid hr; clear hr
      have HG1 := Lib.hid hg1; clear hg1 hst
      have HLEN := Lib.hid hlen; clear hlen
      go_wp2_with (first
        | (refine wpList_slice_any (o := ⟨some 80, _, _, _, _, _⟩) ?_ 37 (.tmp 79) none (some (.const (.int .i64 8))) ?_ 5 Tryz.underlying37 (by kernel_rfl) A' (n - 8 * j) c' 0 8 ?_ ?_ ?_ (Nat.zero_le _) (by omega) ?_; rfl; rfl; rfl; exact .inr ⟨rfl, rfl⟩; exact .inl rfl; intro A3 hA3 hrd3)
        | fail)
      have hd3 := hrd3 _ (by rw [List.length_map, HLEN.out]; exact hjc) hrd
      rw [List.drop_zero] at hd3
      refine (rlow_any _ A3 (c' - 0) (8 - 0) ((zs.drop (8 * j)).take 8) (by rw [List.length_take, HLEN.out]; omega) (hd3.bytes_take 8) (by decide)).mono ?_
      rintro _ w' ⟨rfl, rfl⟩
      rw [HL.out]
      go_wp2_with fail
      refine (rround_any 0 l _ (by decide) hll).mono ?_
      rintro _ w' ⟨rfl, rfl⟩
      go_wp2_with fail
      refine (left_any z 27 _ hzl (by decide) (by decide)).mono ?_
      rintro _ w' ⟨rfl, rfl⟩
      rw [HR.out]
      go_wp2_with (first
        | (refine wpList_slice_any (o := ⟨some 88, _, _, _, _, _⟩) ?_ 37 (.tmp 87) (some (.const (.int .i64 8))) none ?_ 5 Tryz.underlying37 (by kernel_rfl) A' (n - 8 * j) c' 8 (n - 8 * j) ?_ ?_ ?_ hlt hjc ?_; rfl; rfl; rfl; exact .inl rfl; exact .inr ⟨rfl, rfl⟩; intro A2 hA2 hrd2)
        | fail)
      have hd := hrd2 _ (by rw [List.length_map, HLEN.out]; exact hjc) hrd
      rw [← List.map_drop, List.drop_drop] at hd
      go_roundw
      case rel => exact ⟨j + 1, A2, c' - 8, by omega, by omega, by omega, by rw [HG1.out], by rw [show n - 8 * (j + 1) = n - 8 * j - 8 from by omega], by rw [show 8 * (j + 1) = 8 * j + 8 from by omega]; exact hd, by first | rfl | trivial⟩
      case measure => simp; omega
    · have hje : zs.length / 8 = j := by rw [HM.out]; omega
      by_cases h4 : 4 ≤ n - 8 * j
      · obtain ⟨ys, hys⟩ : ∃ ys, ys = (zs.drop (8 * j)).drop 4 := ⟨_, rfl⟩
        have hend : xend h zs = tailsB (tail4 (tails8 h j zs) (zs.drop (8 * j))) ys := by
          simp only [xend, hje]
          rw [if_pos (by rw [hlen]; exact h4), hys]
        have hyl : ys.length = n - 8 * j - 4 := by rw [hys, List.length_drop, hlen]
        have hll := leN_take_lt (zs.drop (8 * j)) 4 (by decide)
        generalize tails8 h j zs = g at *
        obtain ⟨l, hl⟩ : ∃ l, leN ((zs.drop (8 * j)).take 4) = l := ⟨_, rfl⟩
        obtain ⟨y, hyy⟩ : ∃ y, l * 11400714785074694791 % 18446744073709551616 = y := ⟨_, rfl⟩
        obtain ⟨z, hz⟩ : ∃ z, g ^^^ y = z := ⟨_, rfl⟩
        obtain ⟨r, hr⟩ : ∃ r, rotl z 23 = r := ⟨_, rfl⟩
        rw [tail4_eq g _ l y z r hl hyy hz hr] at hend
        rw [hl] at hll
        have hyl2 : y < 18446744073709551616 := by rw [← hyy]; exact Nat.mod_lt _ (by decide)
        have w1 : IntKind.u64.wrap ((l : Int) * 11400714785074694791) = (y : Int) := by rw [← hyy]; exact W2 l 11400714785074694791
        have x1 := u64_xor_nat g y hgl hyl2
        have hzl := xor_lt64 hgl hyl2
        rw [hz] at x1 hzl
        obtain ⟨g0, hg0e⟩ : ∃ g0, g0 = (r * 14029467366897019727 + 1609587929392839161) % 18446744073709551616 := ⟨_, rfl⟩
        rw [← hg0e] at hend
        have w3 : IntKind.u64.wrap (IntKind.u64.wrap ((r : Int) * 14029467366897019727) + 1609587929392839161) = (g0 : Int) := by rw [hg0e]; exact W3 r 14029467366897019727 1609587929392839161
        have hg0 : g0 < 18446744073709551616 := by rw [hg0e]; exact Nat.mod_lt _ (by decide)
        have HL := Lib.hid hl; clear hl
        have HR := Lib.hid hr; clear hr
        have HLEN := Lib.hid hlen; clear hlen
        have HEND := Lib.hid hend; clear hend
        have HYL := Lib.hid hyl; clear hyl
        have HYS := Lib.hid hys; clear hys
        clear hyy hz hg0e hje
        go_wp2_with (first
          | (refine wpList_slice_any (o := ⟨some 94, _, _, _, _, _⟩) ?_ 37 (.tmp 93) none (some (.const (.int .i64 4))) ?_ 5 Tryz.underlying37 (by kernel_rfl) A' (n - 8 * j) c' 0 4 ?_ ?_ ?_ (Nat.zero_le _) (by omega) ?_; rfl; rfl; rfl; exact .inr ⟨rfl, rfl⟩; exact .inl rfl; intro A3 hA3 hrd3)
          | fail)
        have hd3 := hrd3 _ (by rw [List.length_map, HLEN.out]; exact hjc) hrd
        rw [List.drop_zero] at hd3
        refine (rlow_any _ A3 (c' - 0) (4 - 0) ((zs.drop (8 * j)).take 4) (by rw [List.length_take, HLEN.out]; omega) (hd3.bytes_take 4) (by decide)).mono ?_
        rintro _ w' ⟨rfl, rfl⟩
        rw [HL.out]
        go_wp2_with fail
        refine (left_any z 23 _ hzl (by decide) (by decide)).mono ?_
        rintro _ w' ⟨rfl, rfl⟩
        rw [HR.out]
        go_wp2_with (first
          | (refine wpList_slice_any (o := ⟨some 102, _, _, _, _, _⟩) ?_ 37 (.tmp 101) (some (.const (.int .i64 4))) none ?_ 5 Tryz.underlying37 (by kernel_rfl) A' (n - 8 * j) c' 4 (n - 8 * j) ?_ ?_ ?_ h4 hjc ?_; rfl; rfl; rfl; exact .inl rfl; exact .inr ⟨rfl, rfl⟩; intro A2 hA2 hrd2)
          | fail)
        have hy := hrd2 _ (by rw [List.length_map, HLEN.out]; exact hjc) hrd
        rw [← List.map_drop, ← HYS.out] at hy
        clear hrd2 hrd3 hd3 w1 w3 x1
        go_loopw [3, 105] (fun v i wq => ∃ k : Nat, k ≤ (n - 8 * j - 4) ∧ i = .int .i64 k ∧ v = .int .u64 (tailsB g0 (ys.take k) : Nat) ∧ wq = wr) (fun _ i _ => (n - 8 * j - 4) - (intOf i).toNat)
        case atStart => exact ⟨0, by omega, rfl, rfl, rfl⟩
        case round =>
          obtain ⟨k, hk, rfl, rfl, rfl⟩ := hrel
          by_cases hlt2 : k < (n - 8 * j - 4)
          · have hkx : k < ys.length := by rw [HYL.out]; exact hlt2
            obtain ⟨b, off, rfl, hcl⟩ := hy.at (by omega)
            have hck := hcl k hkx
            have hb8 := bt_lt ys k
            have hst := tailsB_succ (h := g0) hkx
            have hll := tailsB_lt hg0 (ys.take k)
            generalize bt ys k = p at *
            generalize tailsB g0 (ys.take k) = g at *
            obtain ⟨y, hyy⟩ : ∃ y, p * 2870177450012600261 % 18446744073709551616 = y := ⟨_, rfl⟩
            obtain ⟨z, hz⟩ : ∃ z, g ^^^ y = z := ⟨_, rfl⟩
            obtain ⟨r, hr⟩ : ∃ r, rotl z 11 = r := ⟨_, rfl⟩
            rw [hyy, hz, hr] at hst
            have hyl2 : y < 18446744073709551616 := by rw [← hyy]; exact Nat.mod_lt _ (by decide)
            have w1 : IntKind.u64.wrap ((p : Int) * 2870177450012600261) = (y : Int) := by rw [← hyy]; exact W2 p 2870177450012600261
            have x1 := u64_xor_nat g y hll hyl2
            have hzl := xor_lt64 hll hyl2
            rw [hz] at x1 hzl
            obtain ⟨g1, hg1⟩ : ∃ g1, g1 = tailsB g0 (ys.take (k + 1)) := ⟨_, rfl⟩
            rw [← hg1] at hst
            have w2 : IntKind.u64.wrap ((r : Int) * 11400714785074694791) = (g1 : Int) := by rw [hst]; exact W2 r 11400714785074694791
            have HR := Lib.hid hr
            have HG1 := Lib.hid hg1
            clear hyy hz hr hg1 hst hcl
            go_wp2_with fail
            refine (left_any z 11 _ hzl (by decide) (by decide)).mono ?_
            rintro _ w' ⟨rfl, rfl⟩
            rw [HR.out]
            go_wp2
            go_roundw
            case rel => exact ⟨k + 1, by omega, by go_num, by rw [HG1.out], by first | rfl | trivial⟩
            case measure => simp [intOf]; omega
          · have hkn : ys.take k = ys := List.take_of_length_le (by rw [HYL.out]; omega)
            rw [hkn]
            clear hkn
            have hvl := tailsB_lt hg0 ys
            obtain ⟨hv, hhv⟩ : ∃ hv, hv = tailsB g0 ys := ⟨_, rfl⟩
            rw [← hhv] at hvl ⊢
            have HHV := Lib.hid hhv; clear hhv
            obtain ⟨z, hz⟩ : ∃ z, hv ^^^ (hv / 8589934592) = z := ⟨_, rfl⟩
            obtain ⟨y, hy1⟩ : ∃ y, z * 14029467366897019727 % 18446744073709551616 = y := ⟨_, rfl⟩
            obtain ⟨v, hv1⟩ : ∃ v, y ^^^ (y / 536870912) = v := ⟨_, rfl⟩
            obtain ⟨u, hu1⟩ : ∃ u, v * 1609587929392839161 % 18446744073709551616 = u := ⟨_, rfl⟩
            obtain ⟨t, ht1⟩ : ∃ t, u ^^^ (u / 4294967296) = t := ⟨_, rfl⟩
            have hse := settle_eq hv y z u v t hz hy1 hv1 hu1 ht1
            have HSE := Lib.hid hse; clear hse
            have l1 : y < 18446744073709551616 := by rw [← hy1]; exact Nat.mod_lt _ (by decide)
            have l2 : u < 18446744073709551616 := by rw [← hu1]; exact Nat.mod_lt _ (by decide)
            have x1 : bits .xor .u64 (hv : Int) ((hv : Int) / 8589934592) = ((z : Nat) : Int) := by rw [← hz]; exact u64_xor_nat hv (hv / 8589934592) hvl (by omega)
            have m1 : IntKind.u64.wrap ((z : Int) * 14029467366897019727) = (y : Int) := by rw [← hy1]; exact W2 z 14029467366897019727
            have x2 : bits .xor .u64 (y : Int) ((y : Int) / 536870912) = (v : Int) := by rw [← hv1]; exact u64_xor_nat y (y / 536870912) l1 (by omega)
            have m2 : IntKind.u64.wrap ((v : Int) * 1609587929392839161) = (u : Int) := by rw [← hu1]; exact W2 v 1609587929392839161
            have x3 : bits .xor .u64 (u : Int) ((u : Int) / 4294967296) = (t : Int) := by rw [← ht1]; exact u64_xor_nat u (u / 4294967296) l2 (by omega)
            clear hz hy1 hv1 hu1 ht1
            go_wp2
            go_ret
            exact ⟨by rw [HFIN.out, HEND.out, ← HHV.out, HSE.out]; rfl, hbW⟩
      · obtain ⟨ys, hys⟩ : ∃ ys, ys = zs.drop (8 * j) := ⟨_, rfl⟩
        have hend : xend h zs = tailsB (tails8 h j zs) ys := by
          simp only [xend, hje]
          rw [if_neg (by rw [hlen]; exact h4), hys]
        have HYL : Hid (ys.length = n - 8 * j) := by rw [hys]; exact Lib.hid hlen
        have hy := hrd
        rw [← hys] at hy
        have hg0 := hgl
        generalize tails8 h j zs = g0 at *
        have HEND := Lib.hid hend; clear hend
        have HYS := Lib.hid hys; clear hys hje hlen
        go_wp2
        go_loopw [3, 105] (fun v i wq => ∃ k : Nat, k ≤ (n - 8 * j) ∧ i = .int .i64 k ∧ v = .int .u64 (tailsB g0 (ys.take k) : Nat) ∧ wq = wr) (fun _ i _ => (n - 8 * j) - (intOf i).toNat)
        case atStart => exact ⟨0, by omega, rfl, rfl, rfl⟩
        case round =>
          obtain ⟨k, hk, rfl, rfl, rfl⟩ := hrel
          by_cases hlt2 : k < (n - 8 * j)
          · have hkx : k < ys.length := by rw [HYL.out]; exact hlt2
            obtain ⟨b, off, rfl, hcl⟩ := hy.at (by omega)
            have hck := hcl k hkx
            have hb8 := bt_lt ys k
            have hst := tailsB_succ (h := g0) hkx
            have hll := tailsB_lt hg0 (ys.take k)
            generalize bt ys k = p at *
            generalize tailsB g0 (ys.take k) = g at *
            obtain ⟨y, hyy⟩ : ∃ y, p * 2870177450012600261 % 18446744073709551616 = y := ⟨_, rfl⟩
            obtain ⟨z, hz⟩ : ∃ z, g ^^^ y = z := ⟨_, rfl⟩
            obtain ⟨r, hr⟩ : ∃ r, rotl z 11 = r := ⟨_, rfl⟩
            rw [hyy, hz, hr] at hst
            have hyl2 : y < 18446744073709551616 := by rw [← hyy]; exact Nat.mod_lt _ (by decide)
            have w1 : IntKind.u64.wrap ((p : Int) * 2870177450012600261) = (y : Int) := by rw [← hyy]; exact W2 p 2870177450012600261
            have x1 := u64_xor_nat g y hll hyl2
            have hzl := xor_lt64 hll hyl2
            rw [hz] at x1 hzl
            obtain ⟨g1, hg1⟩ : ∃ g1, g1 = tailsB g0 (ys.take (k + 1)) := ⟨_, rfl⟩
            rw [← hg1] at hst
            have w2 : IntKind.u64.wrap ((r : Int) * 11400714785074694791) = (g1 : Int) := by rw [hst]; exact W2 r 11400714785074694791
            have HR := Lib.hid hr
            have HG1 := Lib.hid hg1
            clear hyy hz hr hg1 hst hcl
            go_wp2_with fail
            refine (left_any z 11 _ hzl (by decide) (by decide)).mono ?_
            rintro _ w' ⟨rfl, rfl⟩
            rw [HR.out]
            go_wp2
            go_roundw
            case rel => exact ⟨k + 1, by omega, by go_num, by rw [HG1.out], by first | rfl | trivial⟩
            case measure => simp [intOf]; omega
          · have hkn : ys.take k = ys := List.take_of_length_le (by rw [HYL.out]; omega)
            rw [hkn]
            clear hkn
            have hvl := tailsB_lt hg0 ys
            obtain ⟨hv, hhv⟩ : ∃ hv, hv = tailsB g0 ys := ⟨_, rfl⟩
            rw [← hhv] at hvl ⊢
            have HHV := Lib.hid hhv; clear hhv
            obtain ⟨z, hz⟩ : ∃ z, hv ^^^ (hv / 8589934592) = z := ⟨_, rfl⟩
            obtain ⟨y, hy1⟩ : ∃ y, z * 14029467366897019727 % 18446744073709551616 = y := ⟨_, rfl⟩
            obtain ⟨v, hv1⟩ : ∃ v, y ^^^ (y / 536870912) = v := ⟨_, rfl⟩
            obtain ⟨u, hu1⟩ : ∃ u, v * 1609587929392839161 % 18446744073709551616 = u := ⟨_, rfl⟩
            obtain ⟨t, ht1⟩ : ∃ t, u ^^^ (u / 4294967296) = t := ⟨_, rfl⟩
            have hse := settle_eq hv y z u v t hz hy1 hv1 hu1 ht1
            have HSE := Lib.hid hse; clear hse
            have l1 : y < 18446744073709551616 := by rw [← hy1]; exact Nat.mod_lt _ (by decide)
            have l2 : u < 18446744073709551616 := by rw [← hu1]; exact Nat.mod_lt _ (by decide)
            have x1 : bits .xor .u64 (hv : Int) ((hv : Int) / 8589934592) = ((z : Nat) : Int) := by rw [← hz]; exact u64_xor_nat hv (hv / 8589934592) hvl (by omega)
            have m1 : IntKind.u64.wrap ((z : Int) * 14029467366897019727) = (y : Int) := by rw [← hy1]; exact W2 z 14029467366897019727
            have x2 : bits .xor .u64 (y : Int) ((y : Int) / 536870912) = (v : Int) := by rw [← hv1]; exact u64_xor_nat y (y / 536870912) l1 (by omega)
            have m2 : IntKind.u64.wrap ((v : Int) * 1609587929392839161) = (u : Int) := by rw [← hu1]; exact W2 v 1609587929392839161
            have x3 : bits .xor .u64 (u : Int) ((u : Int) / 4294967296) = (t : Int) := by rw [← ht1]; exact u64_xor_nat u (u / 4294967296) l2 (by omega)
            clear hz hy1 hv1 hu1 ht1
            go_wp2
            go_ret
            exact ⟨by rw [HFIN.out, HEND.out, ← HHV.out, HSE.out]; rfl, hbW⟩
end
end Go.Proofs.YtmicbgcdnkomjaaGreatDoor
