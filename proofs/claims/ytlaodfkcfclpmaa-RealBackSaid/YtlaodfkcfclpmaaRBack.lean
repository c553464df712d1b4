/-
  RealBack (P4.12): every whole number up to 2^53 in size comes back of its value, which has no fraction, and its sign. No condition.
-/
import Derived.Test.YtlaodfkcfclpmaaLaw
import Derived.Test.YtlaodfkcfclpmaaFwh
namespace Go.Proofs.Ytlaodfkcfclpmaa
set_option linter.unusedVariables false
set_option linter.unusedSimpArgs false
open Go.ChangeShapes Go.WideShapes Go.ChangeAt Go.RowKit

section
set_option maxHeartbeats 1600000
set_option maxRecDepth 100000
theorem neg_word (s : Bool) {R : Nat} (h : R < 9223372036854775808) : negN (wordN s R) = s := by
  unfold negN wordN
  cases s
  · rw [decide_eq_false_iff_not]; simp; omega
  · rw [decide_eq_true_eq]; simp
/-- What a whole number's value must tell. -/
def BackOk (n : Int) (v : Nat) : Prop := wholeR v = (n, true) ∧ oneN 2 v = v ∧ oneN 3 v = v ∧ negN v = decide (n < 0) ∧ v < 18446744073709551616
theorem ones_of {v : Nat} (hn : nanB v = false) (h : ∀ way, intN way v = v) : oneN 2 v = v ∧ oneN 3 v = v := by
  rw [oneN_2, oneN_3]
  unfold toldInt
  rw [if_neg (by rw [hn]; decide), if_neg (by rw [hn]; decide), h, h]
  exact ⟨tellN_num hn, tellN_num hn⟩
theorem back_some (s : Bool) (K : Nat) (h0 : K ≠ 0) (h : K < 9007199254740992) : BackOk (if s then -(K : Int) else K) (FloatKind.f64.format.nearest s K 0) := by
  obtain ⟨z, hz, b1, b2, hw, hr⟩ := nearest_whole s K h0 h
  have hb := nearest_num s K 0
  obtain ⟨v, hv⟩ : ∃ v, FloatKind.f64.format.nearest s K 0 = v := ⟨_, rfl⟩
  rw [hv] at hw hr hb ⊢
  obtain ⟨hn, hlt⟩ := hb
  have hint : ∀ way, intN way v = v := by
    intro way
    by_cases h1 : z = 0
    · subst h1; exact int_big way hlt hr (by decide)
    · obtain ⟨K', _, hi, _, hk⟩ := int_small way hlt hr (by omega)
      have : K' = K := by rw [hk (by rw [show (- -(z : Int)).toNat = z by omega]; exact Nat.dvd_mul_left _ _), show (- -(z : Int)).toNat = z by omega, Nat.mul_div_cancel _ (Nat.two_pow_pos _)]
      rw [hi, this, hv]
  have hpow : (9007199254740992 : Nat) ≤ 4503599627370496 * 2 ^ (11 + z) := by
    rw [Nat.pow_add]
    have : 1 ≤ 2 ^ z := Nat.two_pow_pos z
    have : 4503599627370496 * (2 ^ 11 * 1) ≤ 4503599627370496 * (2 ^ 11 * 2 ^ z) := Nat.mul_le_mul_left _ (Nat.mul_le_mul_left _ this)
    omega
  have hmin : min (-(z : Int)) 11 = -(z : Int) := by omega
  have hlow : lowB v = false := by
    have e1 : FloatKind.f64.format.order v 14114281232179134464 = (FloatKind.f64.format.read v).order (.number true 4503599627370496 11) := rfl
    have e2 : Ieee.Datum.order (.number s (K * 2 ^ z) (-(z : Int))) (.number true 4503599627370496 11) = some (compare (Ieee.signed s (K * 2 ^ z) (-(z : Int) - min (-(z : Int)) 11).toNat) (Ieee.signed true 4503599627370496 (11 - min (-(z : Int)) 11).toNat)) := rfl
    unfold lowB
    rw [e1, hr, e2, hmin, Int.sub_self, show (11 - -(z : Int)).toNat = 11 + z by omega]
    unfold Ieee.signed
    rw [Nat.shiftLeft_eq, Nat.shiftLeft_eq]
    generalize 4503599627370496 * 2 ^ (11 + z) = P at *
    generalize K * 2 ^ z = Q at *
    have hge : ¬ (if s = true then -((Q * 2 ^ (0 : Int).toNat : Nat) : Int) else ((Q * 2 ^ (0 : Int).toNat : Nat) : Int)) < -(P : Int) := by
      rw [show (0 : Int).toNat = 0 from rfl, Nat.pow_zero, Nat.mul_one]
      cases s <;> simp <;> omega
    simp only [if_true]
    generalize (if s = true then -((Q * 2 ^ (0 : Int).toNat : Nat) : Int) else ((Q * 2 ^ (0 : Int).toNat : Nat) : Int)) = a at *
    cases hc : compare a (-(P : Int)) with
    | lt => exact absurd (Int.compare_eq_lt.1 hc) hge
    | eq => rfl
    | gt => rfl
  have hhigh : highB v = false := by
    have e1 : FloatKind.f64.format.order v 4890909195324358656 = (FloatKind.f64.format.read v).order (.number false 4503599627370496 11) := rfl
    have e2 : Ieee.Datum.order (.number s (K * 2 ^ z) (-(z : Int))) (.number false 4503599627370496 11) = some (compare (Ieee.signed s (K * 2 ^ z) (-(z : Int) - min (-(z : Int)) 11).toNat) (Ieee.signed false 4503599627370496 (11 - min (-(z : Int)) 11).toNat)) := rfl
    unfold highB
    rw [e1, hr, e2, hmin, Int.sub_self, show (11 - -(z : Int)).toNat = 11 + z by omega]
    unfold Ieee.signed
    rw [Nat.shiftLeft_eq, Nat.shiftLeft_eq]
    generalize 4503599627370496 * 2 ^ (11 + z) = P at *
    generalize K * 2 ^ z = Q at *
    have hlt2 : (if s = true then -((Q * 2 ^ (0 : Int).toNat : Nat) : Int) else ((Q * 2 ^ (0 : Int).toNat : Nat) : Int)) < (P : Int) := by
      rw [show (0 : Int).toNat = 0 from rfl, Nat.pow_zero, Nat.mul_one]
      cases s <;> simp <;> omega
    simp only [Bool.false_eq_true, if_false]
    generalize (if s = true then -((Q * 2 ^ (0 : Int).toNat : Nat) : Int) else ((Q * 2 ^ (0 : Int).toNat : Nat) : Int)) = a at *
    rw [Int.compare_eq_lt.2 hlt2]
    rfl
  have hwd : wholeD (K * 2 ^ z) (-(z : Int)) = true := by
    unfold wholeD
    rw [decide_eq_true_eq]
    right
    rw [show (- -(z : Int)).toNat = z by omega]
    exact Nat.dvd_mul_left _ _
  have hcut : cutZ s (K * 2 ^ z) (-(z : Int)) = if s then -(K : Int) else K := by
    unfold cutZ
    have : (if 0 ≤ -(z : Int) then K * 2 ^ z * 2 ^ (-(z : Int)).toNat else K * 2 ^ z / 2 ^ (- -(z : Int)).toNat) = K := by
      split
      · obtain rfl : z = 0 := by omega
        simp
      · rw [show (- -(z : Int)).toNat = z by omega, Nat.mul_div_cancel _ (Nat.two_pow_pos _)]
    rw [this]
  refine ⟨?_, (ones_of hn hint).1, (ones_of hn hint).2, ?_, hlt⟩
  · unfold wholeR
    rw [hn, hlow, hhigh, hr]
    simp [hwd, hcut]
  · rw [hw, neg_word s (by omega)]
    cases s
    · simp
    · simp; omega
theorem back_0 : BackOk 0 0 := ⟨by kernel_rfl, by kernel_rfl, by kernel_rfl, by kernel_rfl, by decide⟩
theorem back_p : BackOk 9007199254740992 4845873199050653696 := ⟨by kernel_rfl, by kernel_rfl, by kernel_rfl, by kernel_rfl, by decide⟩
theorem back_m : BackOk (-9007199254740992) 14069245235905429504 := ⟨by kernel_rfl, by kernel_rfl, by kernel_rfl, by kernel_rfl, by decide⟩
theorem back_of (n : Int) (h1 : -9007199254740992 ≤ n) (h2 : n ≤ 9007199254740992) : BackOk n (ofN n) := by
  rw [ofN_eq]
  by_cases h0 : n = 0
  · subst h0
    rw [show floatOfInt .f64 0 = 0 by kernel_rfl]
    exact back_0
  · by_cases hp : n = 9007199254740992
    · subst hp
      rw [show floatOfInt .f64 9007199254740992 = 4845873199050653696 by kernel_rfl]
      exact back_p
    · by_cases hm : n = -9007199254740992
      · subst hm
        rw [show floatOfInt .f64 (-9007199254740992) = 14069245235905429504 by kernel_rfl]
        exact back_m
      · have h := back_some (decide (n < 0)) n.natAbs (by omega) (by omega)
        have e : floatOfInt .f64 n = FloatKind.f64.format.nearest (decide (n < 0)) n.natAbs 0 := rfl
        rw [e]
        have e2 : (if decide (n < 0) = true then -(n.natAbs : Int) else (n.natAbs : Int)) = n := by
          split
          · rename_i h; rw [decide_eq_true_eq] at h; omega
          · rename_i h; rw [decide_eq_true_eq] at h; omega
        rw [e2] at h
        exact h
theorem back_walk (n : Int) (w : World) (hlo : -9223372036854775808 ≤ n) (hhi : n ≤ 9223372036854775807) :
    Calls Try.prog 12 #[.int .i64 n] w fun e w' => e = .returned (.bool true) ∧ Below w.heap.size w w' := by
  have hb : -9007199254740992 ≤ n.tmod 9007199254740993 ∧ n.tmod 9007199254740993 ≤ 9007199254740992 := by
    have := Int.tmod_lt_of_pos n (b := 9007199254740993) (by decide)
    have := Int.lt_tmod_of_pos n (b := 9007199254740993) (by decide)
    omega
  obtain ⟨m, hm⟩ : ∃ m, n.tmod 9007199254740993 = m := ⟨_, rfl⟩
  rw [hm] at hb
  obtain ⟨h1, h2, h3, h4, h5⟩ := back_of m hb.1 hb.2
  obtain ⟨v, hv⟩ : ∃ v, ofN m = v := ⟨_, rfl⟩
  rw [hv] at h1 h2 h3 h4 h5
  have HV := Lib.hid hv; clear hv
  have H1 := Lib.hid h1; clear h1
  have H2 := Lib.hid h2; clear h2
  have H3 := Lib.hid h3; clear h3
  have H4 := Lib.hid h4; clear h4
  go_enter Try.func12, Try.ntmps12
  go_wp2_with fail

  go_wp2_with fail
  refine (of_any m w).mono ?_
  rintro e w1 ⟨rfl, rfl⟩
  rw [HV.out]
  go_wp2_with fail
  refine (whole_any v w h5).mono ?_
  rintro e w1 ⟨rfl, n1, rfl⟩
  rw [H1.out]
  go_wp2_with fail
  refine (live_any _).mono ?_
  rintro e w1 ⟨rfl, nl, rfl⟩
  go_wp2_with fail
  refine (one_any' 2 v _ h5).mono ?_
  rintro e w1 ⟨rfl, n3, rfl⟩
  rw [H2.out]
  go_wp2_with fail
  refine (one_any' 3 v _ h5).mono ?_
  rintro e w1 ⟨rfl, n4, rfl⟩
  rw [H3.out]
  go_wp2_with fail
  refine (neg_any v _ h5).mono ?_
  rintro e w1 ⟨rfl, rfl⟩
  rw [H4.out]
  go_wp2
  go_ret
  exact ⟨rfl, below_drewN (Below.refl _ w) _⟩

set_option maxRecDepth 100000 in
theorem realBack_lifted (os : Os) (started : os.Started) (H : Type) (enc : TypeId × Value → H) :
    ReturnsInHanded {} Try.checked os 12 .any (Rows.realBackSpec.pre6 enc Try.prog Try.f12 Rows.realBackRow.domain false) (Rows.realBackSpec.post enc Try.prog Try.f12 false true false false) := by
  refine returnsInHanded_of_change (C := Try.checked) ownKn started (by kernel_rfl) Try.func12
    (ChangeSpec.witness6 (enc := enc) (C := Try.checked) false ⟨#[], #[.int .i64 0], []⟩ 8 (by kernel_rfl) (by kernel_rfl) (by kernel_rfl) (by kernel_rfl)) ?_
  intro W base args ds gs before hval0 hW hcnd _
  have hval : ∀ (j : Nat) t v, Try.f12.params[j]? = some t → args[j]? = some v → Value.okWide Try.prog W .any base t v := hval0
  have hW' := hW
  obtain ⟨p, q, hA0, hV, rfl, hfz, hnd⟩ := hW
  have hA : DataW.TrodAll enc Try.prog W 0 (fun _ => true) true Try.f12.params.toList args.toList ds p := hA0
  rw [Try.params12] at hA hval
  obtain ⟨v0, vs0, d0, ds0, p0, q0, hargs, rfl, rfl, h0, r0⟩ := trodAll_cons hA
  obtain ⟨rfl, rfl, rfl⟩ := trodAll_nil r0
  obtain rfl : args = #[v0] := by cases args; simp_all
  obtain ⟨rfl, rfl⟩ := trodVars_none hV
  obtain ⟨a0, rfl, rfl, rfl, w0⟩ := open_int Try.underlying2 (hval 0 2 v0 rfl rfl) h0
  clear hA0 hval0 hA
  have b0 := bounds_i64 w0
  refine (back_walk a0 W (by omega) (by omega)).mono fun e W' ⟨he, hg⟩ => ?_
  subst he
  exact ⟨_, rfl, law_end laidOut (by kernel_rfl) (by kernel_rfl) Try.underlying4 rfl hW' ⟨rfl, rfl, rfl⟩ hg⟩

theorem realBack_holds : Rows.RealBackSaid :=
  OpenClaim.holds_of_wide 12 Try.f12 rfl rfl rfl rfl rfl rfl rfl ⟨rfl, rfl, rfl, rfl, rfl⟩ rfl rfl rfl rfl rfl (by kernel_rfl) Try.func12 (by kernel_rfl)
    (of_decide_eq_true (by kernel_rfl)) (by unfold Func.isWrapper; first | (rw [if_pos (by decide +kernel)]; kernel_rfl) | (rw [if_neg (by decide +kernel)]; exact ⟨rfl, rfl⟩))
    (fun os started H enc _ => realBack_lifted os started H enc)
#print axioms realBack_holds
end
end Go.Proofs.Ytlaodfkcfclpmaa
