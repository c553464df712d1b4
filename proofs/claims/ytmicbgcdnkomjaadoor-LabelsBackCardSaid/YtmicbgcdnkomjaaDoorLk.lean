/-
  The text that bytes begin with: the program's takeText.
-/
import Derived.Test.YtmicbgcdnkomjaaDoorUvP
import Derived.Test.YtmicbgcdnkomjaaDoorSl
import Derived.Test.YtmicbgcdnkomjaaDoorSr
namespace Go.Proofs.YtmicbgcdnkomjaaDoor
set_option linter.unusedVariables false
set_option linter.unusedSimpArgs false
open Go.RowKit
/-- A text of at most so many bytes: what it is, how many bytes it took, what was wrong. -/
def textAt (b : Bs) (most : Nat) : ByteArray × Nat × Nat :=
  if (uvS 0 0 b).2.2 ≠ 0 then (⟨#[]⟩, 0, (uvS 0 0 b).2.2) else if most < (uvS 0 0 b).1 then (⟨#[]⟩, 0, 3)
  else if b.length - (uvS 0 0 b).2.1 < (uvS 0 0 b).1 then (⟨#[]⟩, 0, 6) else (mkB ((b.drop (uvS 0 0 b).2.1).take (uvS 0 0 b).1), (uvS 0 0 b).2.1 + (uvS 0 0 b).1, 0)
theorem textAt_le (b : Bs) (most : Nat) : (textAt b most).2.1 ≤ b.length ∧ (textAt b most).1.size ≤ most := by
  have hk := uvS_le' b
  unfold textAt
  split
  · exact ⟨Nat.zero_le _, Nat.zero_le _⟩
  · split
    · exact ⟨Nat.zero_le _, Nat.zero_le _⟩
    · split
      · exact ⟨Nat.zero_le _, Nat.zero_le _⟩
      · refine ⟨by simp only; omega, ?_⟩
        simp only [mkB_size, List.length_take]
        omega
section
set_option maxHeartbeats 1600000
set_option maxRecDepth 100000
theorem text_at_any (A : Option Addr) (c : Nat) (xs : Bs) (most : Nat) (w : World) (hx : Rd w A (xs.map Bv)) (hc : xs.length ≤ c) (hl : xs.length ≤ 1000000) (hm : most ≤ 1000) :
    Calls Tryd.prog 75 #[.slice A xs.length c, .int .u64 (most : Nat)] w fun e w' => e = .returned (.tuple #[.string (textAt xs most).1, .int .i64 ((textAt xs most).2.1 : Nat), .int .i64 ((textAt xs most).2.2 : Nat)]) ∧ w' = w := by
  have hu := uvarint_any A c xs w hx (by omega)
  have hk := uvS_le' xs
  have hn := uvS_lt' xs
  obtain ⟨R, hR⟩ : ∃ R, R = textAt xs most := ⟨_, rfl⟩
  rw [← hR]
  unfold textAt at hR
  generalize uvS 0 0 xs = U at hu hk hn hR
  obtain ⟨n, k, e⟩ := U
  simp only at hk hn hR
  have hut : uvT (n, k, e) = .tuple #[.int .u64 (n : Int), .int .i64 (k : Int), .int .i64 (e : Int)] := rfl
  rw [hut] at hu
  have HU := Lib.hid hu; clear hu hut
  by_cases he : e = 0
  · subst he
    rw [if_neg (by simp)] at hR
    by_cases h1 : most < n
    · rw [if_pos h1] at hR
      subst hR
      have g1 : (most : Int) < (n : Int) := by omega
      go_enter Tryd.func75, Tryd.ntmps75
      go_wp2_with fail
      refine HU.out.mono ?_
      rintro e w1 ⟨rfl, rfl⟩
      go_wp2
      go_ret3
      exact ⟨rfl, rfl⟩
    · rw [if_neg h1] at hR
      have g1 : ¬ (most : Int) < (n : Int) := by omega
      have hsub : ((xs.length : Int) - (k : Int)) = ((xs.length - k : Nat) : Int) := by omega
      by_cases h2 : xs.length - k < n
      · rw [if_pos h2] at hR
        subst hR
        have g2 : ((xs.length : Int) - (k : Int)) < (n : Int) := by omega
        go_enter Tryd.func75, Tryd.ntmps75
        go_wp2_with fail
        refine HU.out.mono ?_
        rintro e w1 ⟨rfl, rfl⟩
        go_wp2
        go_ret3
        exact ⟨rfl, rfl⟩
      · rw [if_neg h2] at hR
        subst hR
        have g2 : ¬ ((xs.length : Int) - (k : Int)) < (n : Int) := by omega
        have hlen : ((xs.drop k).take n).length = n := by rw [List.length_take, List.length_drop]; omega
        generalize hz : (xs.drop k).take n = z at hlen
        have hd : Rd w (A.map (·.add k)) (z.map Bv) := by have h := (hx.drop k).take n; rwa [← List.map_drop, ← List.map_take, hz] at h
        have hs2 := run_str w _ (c - k) z hd
        rw [hlen] at hs2
        clear hd hz
        have k2 : (k : Int) ≤ (k : Int) + (n : Int) := by omega
        have k3 : (k : Int) + (n : Int) ≤ (c : Int) := by omega
        by_cases hn0 : n = 0
        · subst hn0
          obtain rfl : z = [] := List.eq_nil_of_length_eq_zero hlen
          have hs1 := run_str w A 0 [] (Rd.nil _ _)
          simp only [List.length_nil] at hs1
          go_enter Tryd.func75, Tryd.ntmps75
          go_wp2_with fail
          refine HU.out.mono ?_
          rintro e w1 ⟨rfl, rfl⟩
          go_wp2
          all_goals
            go_ret3
            exact ⟨rfl, rfl⟩
        · have hck : ¬ c = k := by omega
          go_enter Tryd.func75, Tryd.ntmps75
          go_wp2_with fail
          refine HU.out.mono ?_
          rintro e w1 ⟨rfl, rfl⟩
          go_wp2
          go_ret3
          exact ⟨rfl, rfl⟩
  · rw [if_pos he] at hR
    subst hR
    have g0 : ((e : Int) != 0) = true := by rw [bne_iff_ne]; omega
    go_enter Tryd.func75, Tryd.ntmps75
    go_wp2_with fail
    refine HU.out.mono ?_
    rintro e w1 ⟨rfl, rfl⟩
    go_wp2
    go_ret3
    exact ⟨rfl, rfl⟩
end
end Go.Proofs.YtmicbgcdnkomjaaDoor
