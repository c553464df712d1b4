/-
  What is left behind the stripes, as the package reckons it.
-/
import Derived.Test.YtmicbgcdnkomjaaGreatDoorXn
namespace Go.Proofs.YtmicbgcdnkomjaaGreatDoor
set_option linter.unusedVariables false
set_option linter.unusedSimpArgs false
open Go.RowKit

/-- One byte more. -/
theorem tailsB_succ {h : Nat} {ys : List UInt8} {k : Nat} (hk : k < ys.length) : tailsB h (ys.take (k + 1)) = (rotl (tailsB h (ys.take k) ^^^ (bt ys k * 2870177450012600261 % 18446744073709551616)) 11 * 11400714785074694791) % 18446744073709551616 := by
  have e : bt ys k = ys[k].toNat := by simp [bt, List.getD, hk]
  rw [List.take_succ_eq_append_getElem hk, tailsB, List.foldl_append, List.foldl_cons, List.foldl_nil, e]
  simp only [tail1, tailsB, q1, q5]
theorem tail8_eq (h : Nat) (xs : List UInt8) (l z r : Nat) (hl : leN (xs.take 8) = l) (hz : h ^^^ xround 0 l = z) (hr : rotl z 27 = r) : tail8 h xs = (r * 11400714785074694791 + 9650029242287828579) % 18446744073709551616 := by
  simp only [tail8, q1, q4, hl, hz, hr]
theorem tail4_eq (h : Nat) (xs : List UInt8) (l y z r : Nat) (hl : leN (xs.take 4) = l) (hy : l * 11400714785074694791 % 18446744073709551616 = y) (hz : h ^^^ y = z) (hr : rotl z 23 = r) : tail4 h xs = (r * 14029467366897019727 + 1609587929392839161) % 18446744073709551616 := by
  simp only [tail4, q1, q2, q3, hl, hy, hz, hr]
theorem leN_take_lt (xs : List UInt8) (k : Nat) (h : k ≤ 8) : leN (xs.take k) < 18446744073709551616 := by
  have h1 := leN_le (xs.take k) k (List.length_take_le _ _)
  have h3 : 2 ^ (8 * k) ≤ 2 ^ 64 := Nat.pow_le_pow_right (by decide) (by omega)
  omega

section
set_option maxHeartbeats 1600000
set_option maxRecDepth 100000
theorem ended_any (w : World) (h : Nat) (A : Option Addr) (c n : Nat) (xs : List UInt8) (hh : h < 18446744073709551616) (hm : xs.length = n) (hx : Rd w A (xs.map Bv)) (hmc : n ≤ c) (hc : c ≤ 9223372036854775807) :
    Calls Tryz.prog 75 #[.int .u64 (h : Nat), .slice A n c] w fun e w' => e = .returned (.int .u64 (xend h xs : Nat)) ∧ w = w' := by
  have HM := Lib.hid hm; clear hm
  go_enter Tryz.func75, Tryz.ntmps75
  go_wp2
  go_loopw [0, 1] (fun v s wr => ∃ (j : Nat) (A' : Option Addr) (c' : Nat), 8 * j ≤ n ∧ n - 8 * j ≤ c' ∧ c' ≤ 9223372036854775807 ∧ v = .int .u64 (tails8 h j xs : Nat) ∧ s = .slice A' (n - 8 * j) c' ∧ Rd w A' ((xs.drop (8 * j)).map Bv) ∧ wr = w) (fun _ s _ => match s with | .slice _ m _ => m | _ => 0)
  case atStart => exact ⟨0, A, c, by omega, by omega, hc, rfl, rfl, hx, rfl⟩
  case round =>
    obtain ⟨j, A', c', hj, hjc, hc', rfl, rfl, hrd, rfl⟩ := hrel
    have hlen : (xs.drop (8 * j)).length = n - 8 * j := by rw [List.length_drop, HM.out]
    have hgl := tails8_lt hh j xs
    by_cases hlt : 8 ≤ n - 8 * j
    · have hst : tails8 h (j + 1) xs = tail8 (tails8 h j xs) (xs.drop (8 * j)) := tails8_succ h j xs
      have hll := leN_take_lt (xs.drop (8 * j)) 8 (by decide)
      generalize tails8 h j xs = g at *
      obtain ⟨l, hl⟩ : ∃ l, leN ((xs.drop (8 * j)).take 8) = l := ⟨_, rfl⟩
      obtain ⟨z, hz⟩ : ∃ z, g ^^^ xround 0 l = z := ⟨_, rfl⟩
      obtain ⟨r, hr⟩ : ∃ r, rotl z 27 = r := ⟨_, rfl⟩
      rw [tail8_eq g _ l z r hl hz hr] at hst
      rw [hl] at hll
      have hx1 := u64_xor_nat g (xround 0 l) hgl (xround_lt _ _)
      have hzl := xor_lt64 hgl (xround_lt 0 l)
      rw [hz] at hx1 hzl
      have w3 : IntKind.u64.wrap (IntKind.u64.wrap ((r : Int) * 11400714785074694791) + 9650029242287828579) = (((r * 11400714785074694791 + 9650029242287828579) % 18446744073709551616 : Nat) : Int) := W3 r 11400714785074694791 9650029242287828579
      obtain ⟨g1, hg1⟩ : ∃ g1, g1 = tails8 h (j + 1) xs := ⟨_, rfl⟩
      rw [← hst, ← hg1] at w3
      have HL := Lib.hid hl; clear hl
      have HZ := Lib.hid hz; clear hz
      have HR := Lib.hid hr; clear hr
      have HG1 := Lib.hid hg1; clear hg1 hst
      have HLEN := Lib.hid hlen; clear hlen
      go_wp2_with fail
      refine (number_any _ A' c' (n - 8 * j) 8 (xs.drop (8 * j)) HLEN.out hrd hlt hjc (by decide) hc').mono ?_
      rintro _ w' ⟨rfl, rfl⟩
      rw [HL.out]
      go_wp2_with fail
      refine (round_any 0 l _ (by decide) hll).mono ?_
      rintro _ w' ⟨rfl, rfl⟩
      go_wp2_with fail
      refine (rot64_any z 27 _ hzl (by decide) (by decide)).mono ?_
      rintro _ w' ⟨rfl, rfl⟩
      rw [HR.out]
      go_wp2_with (first
        | (refine wpList_slice_any (o := ⟨some 20, _, _, _, _, _⟩) ?_ 37 (.tmp 19) (some (.const (.int .i64 8))) none ?_ 5 Tryz.underlying37 (by kernel_rfl) A' (n - 8 * j) c' 8 (n - 8 * j) ?_ ?_ ?_ hlt hjc ?_; rfl; rfl; rfl; exact .inl rfl; exact .inr ⟨rfl, rfl⟩; intro A2 hA2 hrd2)
        | fail)
      have hd := hrd2 _ (by rw [List.length_map, HLEN.out]; exact hjc) hrd
      rw [← List.map_drop, List.drop_drop] at hd
      go_roundw
      case rel => exact ⟨j + 1, A2, c' - 8, by omega, by omega, by omega, by rw [HG1.out], by rw [show n - 8 * (j + 1) = n - 8 * j - 8 from by omega], by rw [show 8 * (j + 1) = 8 * j + 8 from by omega]; exact hd, by first | rfl | trivial⟩
      case measure => simp; omega
    · have hje : xs.length / 8 = j := by rw [HM.out]; omega
      by_cases h4 : 4 ≤ n - 8 * j
      · obtain ⟨ys, hys⟩ : ∃ ys, ys = (xs.drop (8 * j)).drop 4 := ⟨_, rfl⟩
        have hend : xend h xs = tailsB (tail4 (tails8 h j xs) (xs.drop (8 * j))) ys := by
          simp only [xend, hje]
          rw [if_pos (by rw [hlen]; exact h4), hys]
        have hyl : ys.length = n - 8 * j - 4 := by rw [hys, List.length_drop, hlen]
        have hll := leN_take_lt (xs.drop (8 * j)) 4 (by decide)
        generalize tails8 h j xs = g at *
        obtain ⟨l, hl⟩ : ∃ l, leN ((xs.drop (8 * j)).take 4) = l := ⟨_, rfl⟩
        obtain ⟨y, hyy⟩ : ∃ y, l * 11400714785074694791 % 18446744073709551616 = y := ⟨_, rfl⟩
        obtain ⟨z, hz⟩ : ∃ z, g ^^^ y = z := ⟨_, rfl⟩
        obtain ⟨r, hr⟩ : ∃ r, rotl z 23 = r := ⟨_, rfl⟩
        rw [tail4_eq g _ l y z r hl hyy hz hr] at hend
        rw [hl] at hll
        have hyl2 : y < 18446744073709551616 := by rw [← hyy]; exact Nat.mod_lt _ (by decide)
        have w1 : IntKind.u64.wrap ((l : Int) * 11400714785074694791) = (y : Int) := by rw [← hyy]; exact W2 l 11400714785074694791
        have x1 := u64_xor_nat g y hgl hyl2
        have hzl := xor_lt64 hgl hyl2
        rw [hz] at x1 hzl
        obtain ⟨g0, hg0e⟩ : ∃ g0, g0 = (r * 14029467366897019727 + 1609587929392839161) % 18446744073709551616 := ⟨_, rfl⟩
        rw [← hg0e] at hend
        have w3 : IntKind.u64.wrap (IntKind.u64.wrap ((r : Int) * 14029467366897019727) + 1609587929392839161) = (g0 : Int) := by rw [hg0e]; exact W3 r 14029467366897019727 1609587929392839161
        have hg0 : g0 < 18446744073709551616 := by rw [hg0e]; exact Nat.mod_lt _ (by decide)
        have HL := Lib.hid hl; clear hl
        have HR := Lib.hid hr; clear hr
        have HLEN := Lib.hid hlen; clear hlen
        have HEND := Lib.hid hend; clear hend
        have HYL := Lib.hid hyl; clear hyl
        have HYS := Lib.hid hys; clear hys
        clear hyy hz hg0e hje
        go_wp2_with fail
        refine (number_any _ A' c' (n - 8 * j) 4 (xs.drop (8 * j)) HLEN.out hrd h4 hjc (by decide) hc').mono ?_
        rintro _ w' ⟨rfl, rfl⟩
        rw [HL.out]
        go_wp2_with fail
        refine (rot64_any z 23 _ hzl (by decide) (by decide)).mono ?_
        rintro _ w' ⟨rfl, rfl⟩
        rw [HR.out]
        go_wp2_with (first
          | (refine wpList_slice_any (o := ⟨some 34, _, _, _, _, _⟩) ?_ 37 (.tmp 33) (some (.const (.int .i64 4))) none ?_ 5 Tryz.underlying37 (by kernel_rfl) A' (n - 8 * j) c' 4 (n - 8 * j) ?_ ?_ ?_ h4 hjc ?_; rfl; rfl; rfl; exact .inl rfl; exact .inr ⟨rfl, rfl⟩; intro A2 hA2 hrd2)
          | fail)
        have hy := hrd2 _ (by rw [List.length_map, HLEN.out]; exact hjc) hrd
        rw [← List.map_drop, ← HYS.out] at hy
        clear hrd2 w1 w3 x1
        go_loopw [0, 37] (fun v i wq => ∃ k : Nat, k ≤ (n - 8 * j - 4) ∧ i = .int .i64 k ∧ v = .int .u64 (tailsB g0 (ys.take k) : Nat) ∧ wq = wr) (fun _ i _ => (n - 8 * j - 4) - (intOf i).toNat)
        case atStart => exact ⟨0, by omega, rfl, rfl, rfl⟩
        case round =>
          obtain ⟨k, hk, rfl, rfl, rfl⟩ := hrel
          by_cases hlt2 : k < (n - 8 * j - 4)
          · have hkx : k < ys.length := by rw [HYL.out]; exact hlt2
            obtain ⟨b, off, rfl, hcl⟩ := hy.at (by omega)
            have hck := hcl k hkx
            have hb8 := bt_lt ys k
            have hst := tailsB_succ (h := g0) hkx
            have hll := tailsB_lt hg0 (ys.take k)
            generalize bt ys k = p at *
            generalize tailsB g0 (ys.take k) = g at *
            obtain ⟨y, hyy⟩ : ∃ y, p * 2870177450012600261 % 18446744073709551616 = y := ⟨_, rfl⟩
            obtain ⟨z, hz⟩ : ∃ z, g ^^^ y = z := ⟨_, rfl⟩
            obtain ⟨r, hr⟩ : ∃ r, rotl z 11 = r := ⟨_, rfl⟩
            rw [hyy, hz, hr] at hst
            have hyl2 : y < 18446744073709551616 := by rw [← hyy]; exact Nat.mod_lt _ (by decide)
            have w1 : IntKind.u64.wrap ((p : Int) * 2870177450012600261) = (y : Int) := by rw [← hyy]; exact W2 p 2870177450012600261
            have x1 := u64_xor_nat g y hll hyl2
            have hzl := xor_lt64 hll hyl2
            rw [hz] at x1 hzl
            obtain ⟨g1, hg1⟩ : ∃ g1, g1 = tailsB g0 (ys.take (k + 1)) := ⟨_, rfl⟩
            rw [← hg1] at hst
            have w2 : IntKind.u64.wrap ((r : Int) * 11400714785074694791) = (g1 : Int) := by rw [hst]; exact W2 r 11400714785074694791
            have HR := Lib.hid hr
            have HG1 := Lib.hid hg1
            clear hyy hz hr hg1 hst hcl
            go_wp2_with fail
            refine (rot64_any z 11 _ hzl (by decide) (by decide)).mono ?_
            rintro _ w' ⟨rfl, rfl⟩
            rw [HR.out]
            go_wp2
            go_roundw
            case rel => exact ⟨k + 1, by omega, by go_num, by rw [HG1.out], by first | rfl | trivial⟩
            case measure => simp [intOf]; omega
          · have hkn : ys.take k = ys := List.take_of_length_le (by rw [HYL.out]; omega)
            rw [hkn]
            clear hkn
            go_wp2
            go_ret
            exact ⟨by rw [HEND.out]; rfl, rfl⟩
      · obtain ⟨ys, hys⟩ : ∃ ys, ys = xs.drop (8 * j) := ⟨_, rfl⟩
        have hend : xend h xs = tailsB (tails8 h j xs) ys := by
          simp only [xend, hje]
          rw [if_neg (by rw [hlen]; exact h4), hys]
        have HYL : Hid (ys.length = n - 8 * j) := by rw [hys]; exact Lib.hid hlen
        have hy := hrd
        rw [← hys] at hy
        have hg0 := hgl
        generalize tails8 h j xs = g0 at *
        have HEND := Lib.hid hend; clear hend
        have HYS := Lib.hid hys; clear hys hje hlen
        go_wp2
        go_loopw [0, 37] (fun v i wq => ∃ k : Nat, k ≤ (n - 8 * j) ∧ i = .int .i64 k ∧ v = .int .u64 (tailsB g0 (ys.take k) : Nat) ∧ wq = wr) (fun _ i _ => (n - 8 * j) - (intOf i).toNat)
        case atStart => exact ⟨0, by omega, rfl, rfl, rfl⟩
        case round =>
          obtain ⟨k, hk, rfl, rfl, rfl⟩ := hrel
          by_cases hlt2 : k < (n - 8 * j)
          · have hkx : k < ys.length := by rw [HYL.out]; exact hlt2
            obtain ⟨b, off, rfl, hcl⟩ := hy.at (by omega)
            have hck := hcl k hkx
            have hb8 := bt_lt ys k
            have hst := tailsB_succ (h := g0) hkx
            have hll := tailsB_lt hg0 (ys.take k)
            generalize bt ys k = p at *
            generalize tailsB g0 (ys.take k) = g at *
            obtain ⟨y, hyy⟩ : ∃ y, p * 2870177450012600261 % 18446744073709551616 = y := ⟨_, rfl⟩
            obtain ⟨z, hz⟩ : ∃ z, g ^^^ y = z := ⟨_, rfl⟩
            obtain ⟨r, hr⟩ : ∃ r, rotl z 11 = r := ⟨_, rfl⟩
            rw [hyy, hz, hr] at hst
            have hyl2 : y < 18446744073709551616 := by rw [← hyy]; exact Nat.mod_lt _ (by decide)
            have w1 : IntKind.u64.wrap ((p : Int) * 2870177450012600261) = (y : Int) := by rw [← hyy]; exact W2 p 2870177450012600261
            have x1 := u64_xor_nat g y hll hyl2
            have hzl := xor_lt64 hll hyl2
            rw [hz] at x1 hzl
            obtain ⟨g1, hg1⟩ : ∃ g1, g1 = tailsB g0 (ys.take (k + 1)) := ⟨_, rfl⟩
            rw [← hg1] at hst
            have w2 : IntKind.u64.wrap ((r : Int) * 11400714785074694791) = (g1 : Int) := by rw [hst]; exact W2 r 11400714785074694791
            have HR := Lib.hid hr
            have HG1 := Lib.hid hg1
            clear hyy hz hr hg1 hst hcl
            go_wp2_with fail
            refine (rot64_any z 11 _ hzl (by decide) (by decide)).mono ?_
            rintro _ w' ⟨rfl, rfl⟩
            rw [HR.out]
            go_wp2
            go_roundw
            case rel => exact ⟨k + 1, by omega, by go_num, by rw [HG1.out], by first | rfl | trivial⟩
            case measure => simp [intOf]; omega
          · have hkn : ys.take k = ys := List.take_of_length_le (by rw [HYL.out]; omega)
            rw [hkn]
            clear hkn
            go_wp2
            go_ret
            exact ⟨by rw [HEND.out]; rfl, rfl⟩
end
end Go.Proofs.YtmicbgcdnkomjaaGreatDoor
