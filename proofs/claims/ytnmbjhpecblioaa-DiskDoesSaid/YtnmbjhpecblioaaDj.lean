/-
  Few calls.
-/
import Derived.Test.YtnmbjhpecblioaaDop
namespace Go.Proofs.Ytnmbjhpecblioaa
set_option linter.unusedVariables false
set_option linter.unusedSimpArgs false
open Go.RowKit
section
set_option maxHeartbeats 1600000
set_option maxRecDepth 100000
theorem min_nat (n : Nat) : min (n : Int) 1048576 = ((min n 1048576 : Nat) : Int) := by omega
theorem min_if (n : Nat) : (if (1048576 : Int) < (n : Int) then (1048576 : Int) else (n : Int)) = ((min n 1048576 : Nat) : Int) := by split <;> omega
theorem few_any (A : Option Addr) (c : Nat) (l : List OpD) (w : World) (hx : Rd w A (l.flatMap opV)) (hlc : l.length ≤ c) (hz : ∀ o ∈ l, OpOk w o) :
    Calls Try.prog 6 #[.slice A l.length c] w fun e w' => ∃ k, k ≤ l.length ∧ k ≤ 150 ∧ e = .returned (.slice A k c) ∧ (∀ o ∈ l.take k, o.bs.length ≤ 30000) ∧ Below w.heap.size w w' := by
  have HX := Lib.hid hx; have HZ := Lib.hid hz
  clear hx hz
  go_enter Try.func6, Try.ntmps6
  go_wp2
  go_loopw [3, 8] (fun s3 s8 wr => ∃ k S : Nat, s8 = .int .i64 k ∧ k ≤ l.length ∧ k ≤ 150 ∧ s3 = .int .i64 S ∧ S ≤ 30000 ∧ Aside (∀ o ∈ l.take k, o.bs.length ≤ 30000) ∧ Aside (Below w.heap.size w wr)) (fun _ s8 _ => l.length - (intOf s8).toNat)
  case atStart => exact ⟨0, 0, rfl, by omega, by omega, rfl, by omega, fun o ho => by simp at ho, Below.refl _ _⟩
  case round =>
    obtain ⟨k, S, rfl, hk, hk15, rfl, hS, AL, BW⟩ := hrel
    have k0 : (0 : Int) ≤ (k : Int) := by omega
    by_cases hlt : k < l.length
    · have k1 : (k : Int) < (l.length : Int) := by omega
      have k2 : (k : Int) ≤ (c : Int) := by omega
      obtain ⟨o, ho⟩ : ∃ o, l[k]? = some o := ⟨_, List.getElem?_eq_getElem hlt⟩
      obtain ⟨b, off, rfl, hc⟩ := (HX.out.below BW.out).flat opV_len (by decide) ho
      have c0 := hc 0 _ rfl; have c1 := hc 1 _ rfl; have c2 := hc 2 _ rfl; have c3 := hc 3 _ rfl; have c4 := hc 4 _ rfl
      rw [Nat.add_zero] at c0
      have htk : l.take (k + 1) = l.take k ++ [o] := by
        obtain ⟨h1, h2⟩ := List.getElem?_eq_some_iff.1 ho
        rw [List.take_succ_eq_append_getElem h1, h2]
      have hal : o.bs.length ≤ 30000 → ∀ x ∈ l.take (k + 1), x.bs.length ≤ 30000 := fun h x hx => by
        rw [htk] at hx
        rcases List.mem_append.1 hx with hx | hx
        · exact AL.out x hx
        · rw [List.mem_singleton] at hx; rw [hx]; exact h
      have HAL := Lib.hid hal
      obtain ⟨⟨z1, z2⟩, z3, z4, z5⟩ := HZ.out o (List.mem_of_getElem? ho)
      obtain ⟨kd, nm, nt, A', c', bs, n⟩ := o
      simp only at c0 c1 c2 c3 c4 z1 z2 z4 z5
      have HBB := Lib.hid (BW.out.alloc BW.out.size (.cells #[.int .i64 kd, .string nm, .string nt, .slice A' bs.length c', .int .i64 n] 35))
      clear hc ho htk hal z3
      have m1 := min_nat bs.length; have m2 := min_nat nm.size; have m3 := min_nat nt.size
      have i1 := min_if bs.length; have i2 := min_if nm.size; have i3 := min_if nt.size
      have hbb : min bs.length 1048576 ≤ 30000 → bs.length ≤ 30000 := fun h => by omega
      have HBS := Lib.hid hbb; clear hbb
      have u1 : min bs.length 1048576 ≤ 1048576 := Nat.min_le_right _ _
      have u2 : min nm.size 1048576 ≤ 1048576 := Nat.min_le_right _ _
      have u3 : min nt.size 1048576 ≤ 1048576 := Nat.min_le_right _ _
      generalize min bs.length 1048576 = x1 at m1 i1 HBS u1
      generalize min nm.size 1048576 = x2 at m2 i2 u2
      generalize min nt.size 1048576 = x3 at m3 i3 u3
      by_cases h150 : 150 ≤ k
      · have q1 : (150 : Int) ≤ (k : Int) := by omega
        go_wp2
        go_ret
        exact ⟨k, hk, hk15, rfl, AL.out, HBB.out⟩
      · have q1 : ¬ (150 : Int) ≤ (k : Int) := by omega
        by_cases hS2 : 30000 < S + (x1 + x2 + x3)
        · have q2 : (30000 : Int) < (S : Int) + ((x1 : Int) + (x2 : Int) + (x3 : Int)) := by omega
          go_wp2
          go_ret
          exact ⟨k, hk, hk15, rfl, AL.out, HBB.out⟩
        · have q2 : ¬ (30000 : Int) < (S : Int) + ((x1 : Int) + (x2 : Int) + (x3 : Int)) := by omega
          have HF := Lib.hid (HAL.out (HBS.out (by omega)))
          go_wp2_with fail
          go_roundw
          case rel => exact ⟨k + 1, S + (x1 + x2 + x3), by go_num, by omega, by omega, by go_num, by omega, (show Aside _ from HF.out), (show Aside _ from HBB.out)⟩
          case measure => simp [intOf]; omega
    · obtain rfl : k = l.length := by omega
      go_wp2
      go_ret
      exact ⟨l.length, Nat.le_refl _, hk15, rfl, AL.out, BW.out⟩
end
end Go.Proofs.Ytnmbjhpecblioaa
