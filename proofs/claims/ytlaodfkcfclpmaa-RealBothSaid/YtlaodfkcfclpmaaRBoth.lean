/-
  RealBoth (P4.11): of every two values the lesser and the greater are both of them, in order; of one that is no number the other one is both. No condition.
-/
import Derived.Test.YtlaodfkcfclpmaaLaw
import Derived.Test.YtlaodfkcfclpmaaFlv
namespace Go.Proofs.Ytlaodfkcfclpmaa
set_option linter.unusedVariables false
set_option linter.unusedSimpArgs false
open Go.ChangeShapes Go.WideShapes Go.ChangeAt Go.RowKit

section
set_option maxHeartbeats 1600000
set_option maxRecDepth 100000
theorem kind_le (v : Nat) : decide (kindN v ≤ 1) = nanB v := by
  unfold kindN
  split
  · rename_i h; subst h; rfl
  · split
    · rename_i h; rw [h]; rfl
    · rename_i h
      have : nanB v = false := by simpa using h
      rw [this]
      split
      · rfl
      · split
        · rfl
        · split <;> rfl
theorem both_1 (a b : Nat) (w : World) (ha : a < 18446744073709551616) (hb : b < 18446744073709551616) (hx : tellN (eitherN a b (decide (ordN a b < 0))) = 9221120237041090561) (hy : tellN (eitherN a b (decide (0 < ordN a b))) = 9221120237041090561)
    (hna : decide (kindN a ≤ 1) = true) (hnb : decide (kindN b ≤ 1) = true) :
    Calls Try.prog 11 #[.int .u64 (a : Nat), .int .u64 (b : Nat)] w fun e w' => e = .returned (.bool true) ∧ Below w.heap.size w w' := by
  have HX := Lib.hid hx; clear hx
  have HY := Lib.hid hy; clear hy
  obtain ⟨ka, hka⟩ : ∃ ka, ka = kindN a := ⟨_, rfl⟩
  obtain ⟨kb, hkb⟩ : ∃ kb, kb = kindN b := ⟨_, rfl⟩
  rw [← hka] at hna
  rw [← hkb] at hnb
  have HKA := Lib.hid hka; clear hka
  have HKB := Lib.hid hkb; clear hkb
  go_enter Try.func11, Try.ntmps11
  go_wp2_with fail
  refine (do_min_any a b _ ha hb).mono ?_
  rintro e w1 ⟨rfl, rfl⟩
  rw [HX.out]
  go_wp2_with fail
  refine (do_max_any a b _ ha hb).mono ?_
  rintro e w1 ⟨rfl, rfl⟩
  rw [HY.out]
  go_wp2_with fail
  refine (kind_any a _ ha).mono ?_
  rintro e w1 ⟨rfl, rfl⟩
  rw [← HKA.out]
  go_wp2_with fail
  refine (kind_any b _ hb).mono ?_
  rintro e w1 ⟨rfl, rfl⟩
  rw [← HKB.out]
  go_wp2_with fail
  refine (live_any _).mono ?_
  rintro e w1 ⟨rfl, n, rfl⟩
  go_wp2
  go_ret
  exact ⟨rfl, below_drewN (Below.refl _ w) _⟩
theorem both_2 (a b : Nat) (w : World) (ha : a < 18446744073709551616) (hb : b < 18446744073709551616) (hx : tellN (eitherN a b (decide (ordN a b < 0))) = b) (hy : tellN (eitherN a b (decide (0 < ordN a b))) = b)
    (hna : decide (kindN a ≤ 1) = true) (hnb : decide (kindN b ≤ 1) = false) :
    Calls Try.prog 11 #[.int .u64 (a : Nat), .int .u64 (b : Nat)] w fun e w' => e = .returned (.bool true) ∧ Below w.heap.size w w' := by
  have HX := Lib.hid hx; clear hx
  have HY := Lib.hid hy; clear hy
  obtain ⟨ka, hka⟩ : ∃ ka, ka = kindN a := ⟨_, rfl⟩
  obtain ⟨kb, hkb⟩ : ∃ kb, kb = kindN b := ⟨_, rfl⟩
  rw [← hka] at hna
  rw [← hkb] at hnb
  have HKA := Lib.hid hka; clear hka
  have HKB := Lib.hid hkb; clear hkb
  go_enter Try.func11, Try.ntmps11
  go_wp2_with fail
  refine (do_min_any a b _ ha hb).mono ?_
  rintro e w1 ⟨rfl, rfl⟩
  rw [HX.out]
  go_wp2_with fail
  refine (do_max_any a b _ ha hb).mono ?_
  rintro e w1 ⟨rfl, rfl⟩
  rw [HY.out]
  go_wp2_with fail
  refine (kind_any a _ ha).mono ?_
  rintro e w1 ⟨rfl, rfl⟩
  rw [← HKA.out]
  go_wp2_with fail
  refine (kind_any b _ hb).mono ?_
  rintro e w1 ⟨rfl, rfl⟩
  rw [← HKB.out]
  go_wp2_with fail
  refine (live_any _).mono ?_
  rintro e w1 ⟨rfl, n, rfl⟩
  go_wp2
  go_ret
  exact ⟨rfl, below_drewN (Below.refl _ w) _⟩
theorem both_3 (a b : Nat) (w : World) (ha : a < 18446744073709551616) (hb : b < 18446744073709551616) (hx : tellN (eitherN a b (decide (ordN a b < 0))) = a) (hy : tellN (eitherN a b (decide (0 < ordN a b))) = a)
    (hna : decide (kindN a ≤ 1) = false) (hnb : decide (kindN b ≤ 1) = true) :
    Calls Try.prog 11 #[.int .u64 (a : Nat), .int .u64 (b : Nat)] w fun e w' => e = .returned (.bool true) ∧ Below w.heap.size w w' := by
  have HX := Lib.hid hx; clear hx
  have HY := Lib.hid hy; clear hy
  obtain ⟨ka, hka⟩ : ∃ ka, ka = kindN a := ⟨_, rfl⟩
  obtain ⟨kb, hkb⟩ : ∃ kb, kb = kindN b := ⟨_, rfl⟩
  rw [← hka] at hna
  rw [← hkb] at hnb
  have HKA := Lib.hid hka; clear hka
  have HKB := Lib.hid hkb; clear hkb
  go_enter Try.func11, Try.ntmps11
  go_wp2_with fail
  refine (do_min_any a b _ ha hb).mono ?_
  rintro e w1 ⟨rfl, rfl⟩
  rw [HX.out]
  go_wp2_with fail
  refine (do_max_any a b _ ha hb).mono ?_
  rintro e w1 ⟨rfl, rfl⟩
  rw [HY.out]
  go_wp2_with fail
  refine (kind_any a _ ha).mono ?_
  rintro e w1 ⟨rfl, rfl⟩
  rw [← HKA.out]
  go_wp2_with fail
  refine (kind_any b _ hb).mono ?_
  rintro e w1 ⟨rfl, rfl⟩
  rw [← HKB.out]
  go_wp2_with fail
  refine (live_any _).mono ?_
  rintro e w1 ⟨rfl, n, rfl⟩
  go_wp2
  go_ret
  exact ⟨rfl, below_drewN (Below.refl _ w) _⟩
theorem both_4 (a b : Nat) (w : World) (ha : a < 18446744073709551616) (hb : b < 18446744073709551616) (hx : tellN (eitherN a b (decide (ordN a b < 0))) = a) (hy : tellN (eitherN a b (decide (0 < ordN a b))) = b)
    (hna : decide (kindN a ≤ 1) = false) (hnb : decide (kindN b ≤ 1) = false) (ho : decide (ordN a b ≤ 0) = true) :
    Calls Try.prog 11 #[.int .u64 (a : Nat), .int .u64 (b : Nat)] w fun e w' => e = .returned (.bool true) ∧ Below w.heap.size w w' := by
  have HX := Lib.hid hx; clear hx
  have HY := Lib.hid hy; clear hy
  obtain ⟨ka, hka⟩ : ∃ ka, ka = kindN a := ⟨_, rfl⟩
  obtain ⟨kb, hkb⟩ : ∃ kb, kb = kindN b := ⟨_, rfl⟩
  rw [← hka] at hna
  rw [← hkb] at hnb
  have HKA := Lib.hid hka; clear hka
  have HKB := Lib.hid hkb; clear hkb
  obtain ⟨z, hz⟩ : ∃ z, z = ordN a b := ⟨_, rfl⟩
  rw [← hz] at ho
  have HZ := Lib.hid hz; clear hz
  go_enter Try.func11, Try.ntmps11
  go_wp2_with fail
  refine (do_min_any a b _ ha hb).mono ?_
  rintro e w1 ⟨rfl, rfl⟩
  rw [HX.out]
  go_wp2_with fail
  refine (do_max_any a b _ ha hb).mono ?_
  rintro e w1 ⟨rfl, rfl⟩
  rw [HY.out]
  go_wp2_with fail
  refine (kind_any a _ ha).mono ?_
  rintro e w1 ⟨rfl, rfl⟩
  rw [← HKA.out]
  go_wp2_with fail
  refine (kind_any b _ hb).mono ?_
  rintro e w1 ⟨rfl, rfl⟩
  rw [← HKB.out]
  go_wp2_with fail
  refine (live_any _).mono ?_
  rintro e w1 ⟨rfl, n, rfl⟩
  go_wp2_with fail
  refine (order_any a b _ ha hb).mono ?_
  rintro e w1 ⟨rfl, rfl⟩
  rw [← HZ.out]
  go_wp2
  go_ret
  exact ⟨rfl, below_drewN (Below.refl _ w) _⟩
theorem both_5 (a b : Nat) (w : World) (ha : a < 18446744073709551616) (hb : b < 18446744073709551616) (hx : tellN (eitherN a b (decide (ordN a b < 0))) = b) (hy : tellN (eitherN a b (decide (0 < ordN a b))) = a)
    (hna : decide (kindN a ≤ 1) = false) (hnb : decide (kindN b ≤ 1) = false) (ho : decide (ordN b a ≤ 0) = true) (hne : a ≠ b) :
    Calls Try.prog 11 #[.int .u64 (a : Nat), .int .u64 (b : Nat)] w fun e w' => e = .returned (.bool true) ∧ Below w.heap.size w w' := by
  have HX := Lib.hid hx; clear hx
  have HY := Lib.hid hy; clear hy
  obtain ⟨ka, hka⟩ : ∃ ka, ka = kindN a := ⟨_, rfl⟩
  obtain ⟨kb, hkb⟩ : ∃ kb, kb = kindN b := ⟨_, rfl⟩
  rw [← hka] at hna
  rw [← hkb] at hnb
  have HKA := Lib.hid hka; clear hka
  have HKB := Lib.hid hkb; clear hkb
  obtain ⟨z, hz⟩ : ∃ z, z = ordN b a := ⟨_, rfl⟩
  rw [← hz] at ho
  have HZ := Lib.hid hz; clear hz
  have hq : ((b : Int) == (a : Int)) = false := by rw [beq_eq_false_iff_ne]; omega
  clear hne
  go_enter Try.func11, Try.ntmps11
  go_wp2_with fail
  refine (do_min_any a b _ ha hb).mono ?_
  rintro e w1 ⟨rfl, rfl⟩
  rw [HX.out]
  go_wp2_with fail
  refine (do_max_any a b _ ha hb).mono ?_
  rintro e w1 ⟨rfl, rfl⟩
  rw [HY.out]
  go_wp2_with fail
  refine (kind_any a _ ha).mono ?_
  rintro e w1 ⟨rfl, rfl⟩
  rw [← HKA.out]
  go_wp2_with fail
  refine (kind_any b _ hb).mono ?_
  rintro e w1 ⟨rfl, rfl⟩
  rw [← HKB.out]
  go_wp2_with fail
  refine (live_any _).mono ?_
  rintro e w1 ⟨rfl, n, rfl⟩
  go_wp2_with fail
  refine (order_any b a _ hb ha).mono ?_
  rintro e w1 ⟨rfl, rfl⟩
  rw [← HZ.out]
  go_wp2
  go_ret
  exact ⟨rfl, below_drewN (Below.refl _ w) _⟩
theorem either_first {a b : Nat} {f : Bool} (ha : nanB a = true) : eitherN a b f = b := by unfold eitherN; rw [ha]; rfl
theorem either_last {a b : Nat} {f : Bool} (ha : nanB a = false) (hb : nanB b = true) : eitherN a b f = a := by unfold eitherN; rw [ha, hb]; rfl
theorem either_both {a b : Nat} {f : Bool} (ha : nanB a = false) (hb : nanB b = false) : eitherN a b f = if f then a else b := by unfold eitherN; rw [ha, hb]; cases f <;> rfl
theorem tell_num {a : Nat} (ha : nanB a = false) : tellN a = a := by unfold tellN; rw [ha]; rfl
theorem tell_nan {a : Nat} (ha : nanB a = true) : tellN a = 9221120237041090561 := by unfold tellN; rw [ha]; rfl
theorem tell_lt {a : Nat} (ha : a < 18446744073709551616) : tellN a < 18446744073709551616 := by unfold tellN; split <;> omega
theorem both_walk (a b : Nat) (w : World) (ha : a < 18446744073709551616) (hb : b < 18446744073709551616) :
    Calls Try.prog 11 #[.int .u64 (a : Nat), .int .u64 (b : Nat)] w fun e w' => e = .returned (.bool true) ∧ Below w.heap.size w w' := by
  cases h1 : nanB a with
  | true =>
    cases h2 : nanB b with
    | true => exact both_1 a b w ha hb (by rw [either_first h1, tell_nan h2]) (by rw [either_first h1, tell_nan h2]) (by rw [kind_le, h1]) (by rw [kind_le, h2])
    | false => exact both_2 a b w ha hb (by rw [either_first h1, tell_num h2]) (by rw [either_first h1, tell_num h2]) (by rw [kind_le, h1]) (by rw [kind_le, h2])
  | false =>
    cases h2 : nanB b with
    | true => exact both_3 a b w ha hb (by rw [either_last h1 h2, tell_num h1]) (by rw [either_last h1 h2, tell_num h1]) (by rw [kind_le, h1]) (by rw [kind_le, h2])
    | false =>
      have hself : ∀ v, ordN v v = 0 := fun v => by unfold ordN; simp
      by_cases k1 : keyN a < keyN b
      · have e : ordN a b = -1 := if_pos k1
        exact both_4 a b w ha hb (by rw [either_both h1 h2, e]; exact tell_num h1) (by rw [either_both h1 h2, e]; exact tell_num h2) (by rw [kind_le, h1]) (by rw [kind_le, h2]) (by rw [e]; rfl)
      · by_cases k2 : keyN b < keyN a
        · have e : ordN a b = 1 := by unfold ordN; rw [if_neg k1, if_pos k2]
          have e2 : ordN b a = -1 := if_pos k2
          exact both_5 a b w ha hb (by rw [either_both h1 h2, e]; exact tell_num h2) (by rw [either_both h1 h2, e]; exact tell_num h1) (by rw [kind_le, h1]) (by rw [kind_le, h2]) (by rw [e2]; rfl) (fun e => by rw [e] at k2; omega)
        · obtain rfl : a = b := keyN_inj ha hb (by omega)
          have hf : ∀ f : Bool, (if f then a else a) = a := fun f => by cases f <;> rfl
          exact both_4 a a w ha hb (by rw [either_both h1 h2, hf, tell_num h1]) (by rw [either_both h1 h2, hf, tell_num h1]) (by rw [kind_le, h1]) (by rw [kind_le, h2]) (by rw [hself]; rfl)

set_option maxRecDepth 100000 in
theorem realBoth_lifted (os : Os) (started : os.Started) (H : Type) (enc : TypeId × Value → H) :
    ReturnsInHanded {} Try.checked os 11 .any (Rows.realBothSpec.pre6 enc Try.prog Try.f11 Rows.realBothRow.domain false) (Rows.realBothSpec.post enc Try.prog Try.f11 false true false false) := by
  refine returnsInHanded_of_change (C := Try.checked) ownKn started (by kernel_rfl) Try.func11
    (ChangeSpec.witness6 (enc := enc) (C := Try.checked) false ⟨#[], #[.int .u64 0, .int .u64 0], []⟩ 8 (by kernel_rfl) (by kernel_rfl) (by kernel_rfl) (by kernel_rfl)) ?_
  intro W base args ds gs before hval0 hW hcnd _
  have hval : ∀ (j : Nat) t v, Try.f11.params[j]? = some t → args[j]? = some v → Value.okWide Try.prog W .any base t v := hval0
  have hW' := hW
  obtain ⟨p, q, hA0, hV, rfl, hfz, hnd⟩ := hW
  have hA : DataW.TrodAll enc Try.prog W 0 (fun _ => true) true Try.f11.params.toList args.toList ds p := hA0
  rw [Try.params11] at hA hval
  obtain ⟨v0, vs0, d0, ds0, p0, q0, hargs, rfl, rfl, h0, r0⟩ := trodAll_cons hA
  obtain ⟨v1, vs1, d1, ds1, p1, q1, rfl, rfl, rfl, h1, r1⟩ := trodAll_cons r0
  obtain ⟨rfl, rfl, rfl⟩ := trodAll_nil r1
  obtain rfl : args = #[v0, v1] := by cases args; simp_all
  obtain ⟨rfl, rfl⟩ := trodVars_none hV
  obtain ⟨z0, rfl, rfl, rfl, w0⟩ := open_int Try.underlying22 (hval 0 22 v0 rfl rfl) h0
  obtain ⟨z1, rfl, rfl, rfl, w1⟩ := open_int Try.underlying22 (hval 1 22 v1 rfl rfl) h1
  clear hA0 hval0 hA
  have b0 := bounds_u64 w0
  obtain ⟨n0, rfl⟩ := Int.eq_ofNat_of_zero_le b0.1
  have b1 := bounds_u64 w1
  obtain ⟨n1, rfl⟩ := Int.eq_ofNat_of_zero_le b1.1
  refine (both_walk n0 n1 W (by omega) (by omega)).mono fun e W' ⟨he, hg⟩ => ?_
  subst he
  exact ⟨_, rfl, law_end laidOut (by kernel_rfl) (by kernel_rfl) Try.underlying4 rfl hW' ⟨rfl, rfl, rfl⟩ hg⟩

theorem realBoth_holds : Rows.RealBothSaid :=
  OpenClaim.holds_of_wide 11 Try.f11 rfl rfl rfl rfl rfl rfl rfl ⟨rfl, rfl, rfl, rfl, rfl⟩ rfl rfl rfl rfl rfl (by kernel_rfl) Try.func11 (by kernel_rfl)
    (of_decide_eq_true (by kernel_rfl)) (by unfold Func.isWrapper; first | (rw [if_pos (by decide +kernel)]; kernel_rfl) | (rw [if_neg (by decide +kernel)]; exact ⟨rfl, rfl⟩))
    (fun os started H enc _ => realBoth_lifted os started H enc)
#print axioms realBoth_holds
end
end Go.Proofs.Ytlaodfkcfclpmaa
