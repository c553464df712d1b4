/-
  RealSums (P4.6): of every list of values the sum and the mean are the plain answers'. No condition.
-/
import Derived.Test.YtlaodfkcfclpmaaLaw
import Derived.Test.YtlaodfkcfclpmaaOu
namespace Go.Proofs.Ytlaodfkcfclpmaa
set_option linter.unusedVariables false
set_option linter.unusedSimpArgs false
open Go.ChangeShapes Go.WideShapes Go.ChangeAt Go.RowKit

section
set_option maxHeartbeats 1600000
set_option maxRecDepth 100000
theorem sums_walk (A : Option Addr) (c : Nat) (xs : List Nat) (w : World) (hx : Rd w A (xs.map Uv)) (hb : ∀ x ∈ xs, x < 18446744073709551616) (hl : xs.length ≤ 9223372036854775807) :
    Calls Try.prog 7 #[.slice A xs.length c] w fun e w' => e = .returned (.bool true) ∧ Below w.heap.size w w' := by
  have HA := Lib.hid (sum_alike xs)
  by_cases hbig : (xs.length : Int) ≤ 2000
  · have hd : decide (2000 < (xs.length : Int)) = false := by simp; omega
    go_enter Try.func7, Try.ntmps7
    go_wp2_with fail
    refine (live_any _).mono ?_
    rintro e w1 ⟨rfl, n, rfl⟩
    go_wp2_with fail
    refine (sum_any A c xs _ (hx.drewN _) hb hl).mono ?_
    rintro e w1 ⟨rfl, n1, rfl⟩
    rw [HA.out]
    obtain ⟨s, hs⟩ : ∃ s, s = sumR xs := ⟨_, rfl⟩
    rw [← hs]
    have HS := Lib.hid hs; clear hs
    go_wp2_with fail
    refine (rsum_any A c xs _ (hx.drewN _) hb hl).mono ?_
    rintro e w1 ⟨rfl, n2, rfl⟩
    rw [← HS.out]
    go_wp2_with fail
    refine (mean_any A c xs _ (hx.drewN _) hb hl).mono ?_
    rintro e w1 ⟨rfl, n3, rfl⟩
    obtain ⟨m, hm⟩ : ∃ m, m = meanN xs := ⟨_, rfl⟩
    rw [← hm]
    have HM := Lib.hid hm; clear hm
    go_wp2_with fail
    refine (rmean_any A c xs _ (hx.drewN _) hb hl).mono ?_
    rintro e w1 ⟨rfl, n4, rfl⟩
    rw [← HM.out]
    go_wp2
    go_ret
    exact ⟨rfl, below_drewN (Below.refl _ w) _⟩
  · have hd : decide (2000 < (xs.length : Int)) = true := by simp; omega
    go_enter Try.func7, Try.ntmps7
    go_wp2_with fail
    refine (live_any _).mono ?_
    rintro e w1 ⟨rfl, n, rfl⟩
    go_wp2_with fail
    refine (live_any _).mono ?_
    rintro e w1 ⟨rfl, n1, rfl⟩
    go_wp2
    go_ret
    exact ⟨rfl, below_drewN (Below.refl _ w) _⟩

set_option maxRecDepth 100000 in
theorem realSums_lifted (os : Os) (started : os.Started) (H : Type) (enc : TypeId × Value → H) :
    ReturnsInHanded {} Try.checked os 7 .any (Rows.realSumsSpec.pre6 enc Try.prog Try.f7 Rows.realSumsRow.domain false) (Rows.realSumsSpec.post enc Try.prog Try.f7 false true false false) := by
  refine returnsInHanded_of_change (C := Try.checked) ownKn started (by kernel_rfl) Try.func7
    (ChangeSpec.witness6 (enc := enc) (C := Try.checked) false ⟨#[], #[.slice none 0 0], []⟩ 8 (by kernel_rfl) (by kernel_rfl) (by kernel_rfl) (by kernel_rfl)) ?_
  intro W base args ds gs before hval0 hW hcnd _
  have hval : ∀ (j : Nat) t v, Try.f7.params[j]? = some t → args[j]? = some v → Value.okWide Try.prog W .any base t v := hval0
  have hW' := hW
  obtain ⟨p, q, hA0, hV, rfl, hfz, hnd⟩ := hW
  have hA : DataW.TrodAll enc Try.prog W 0 (fun _ => true) true Try.f7.params.toList args.toList ds p := hA0
  rw [Try.params7] at hA hval
  obtain ⟨v0, vs0, d0, ds0, p0, q0, hargs, rfl, rfl, h0, r0⟩ := trodAll_cons hA
  obtain ⟨rfl, rfl, rfl⟩ := trodAll_nil r0
  obtain rfl : args = #[v0] := by cases args; simp_all
  obtain ⟨rfl, rfl⟩ := trodVars_none hV
  obtain ⟨A0, c0, xs0, rfl, hm0, hx0, hw0⟩ := open_u64s (hval 0 35 v0 rfl rfl) h0
  clear hA0 hval0 hA
  unfold maxLen at hm0
  refine (sums_walk A0 c0 xs0 W hx0 hw0 (by omega)).mono fun e W' ⟨he, hg⟩ => ?_
  subst he
  exact ⟨_, rfl, law_end laidOut (by kernel_rfl) (by kernel_rfl) Try.underlying4 rfl hW' ⟨rfl, rfl, rfl⟩ hg⟩

theorem realSums_holds : Rows.RealSumsSaid :=
  OpenClaim.holds_of_wide 7 Try.f7 rfl rfl rfl rfl rfl rfl rfl ⟨rfl, rfl, rfl, rfl, rfl⟩ rfl rfl rfl rfl rfl (by kernel_rfl) Try.func7 (by kernel_rfl)
    (of_decide_eq_true (by kernel_rfl)) (by unfold Func.isWrapper; first | (rw [if_pos (by decide +kernel)]; kernel_rfl) | (rw [if_neg (by decide +kernel)]; exact ⟨rfl, rfl⟩))
    (fun os started H enc _ => realSums_lifted os started H enc)
#print axioms realSums_holds
end
end Go.Proofs.Ytlaodfkcfclpmaa
