/-
  RealTotal (P4.9): of every three values the order is total: one of two unlike ones is ahead, and what is ahead of what is ahead is ahead. No condition.
-/
import Derived.Test.YtlaodfkcfclpmaaLaw
import Derived.Test.YtlaodfkcfclpmaaFlv
namespace Go.Proofs.Ytlaodfkcfclpmaa
set_option linter.unusedVariables false
set_option linter.unusedSimpArgs false
open Go.ChangeShapes Go.WideShapes Go.ChangeAt Go.RowKit

section
set_option maxHeartbeats 1600000
set_option maxRecDepth 100000
theorem ord_cases (a b : Nat) : (ordN a b = -1 ∧ keyN a < keyN b) ∨ (ordN a b = 0 ∧ keyN a = keyN b) ∨ (ordN a b = 1 ∧ keyN b < keyN a) := by
  unfold ordN
  split
  · exact .inl ⟨rfl, by assumption⟩
  · split
    · exact .inr (.inr ⟨rfl, by assumption⟩)
    · exact .inr (.inl ⟨rfl, by omega⟩)
theorem total_0a (a b c : Nat) (w : World) (ha : a < 18446744073709551616) (hb : b < 18446744073709551616) (hc : c < 18446744073709551616) (y z : Int) (hx : ordN a b = -1) (hx' : ordN b a = 1) (hy : ordN b c = y) (hz : ordN a c = z)
    (hq : ((a : Int) == (b : Int)) = false) (h6 : decide (0 < y) = true) :
    Calls Try.prog 8 #[.int .u64 (a : Nat), .int .u64 (b : Nat), .int .u64 (c : Nat)] w fun e w' => e = .returned (.bool true) ∧ Below w.heap.size w w' := by
  have HX := Lib.hid hx; clear hx
  have HX' := Lib.hid hx'; clear hx'
  have HY := Lib.hid hy; clear hy
  have HZ := Lib.hid hz; clear hz
  go_enter Try.func8, Try.ntmps8
  go_wp2_with fail
  refine (order_any a b _ ha hb).mono ?_
  rintro e w1 ⟨rfl, rfl⟩
  rw [HX.out]
  go_wp2_with fail
  refine (order_any b c _ hb hc).mono ?_
  rintro e w1 ⟨rfl, rfl⟩
  rw [HY.out]
  go_wp2_with fail
  refine (order_any a c _ ha hc).mono ?_
  rintro e w1 ⟨rfl, rfl⟩
  rw [HZ.out]
  go_wp2_with fail
  refine (live_any _).mono ?_
  rintro e w1 ⟨rfl, n, rfl⟩
  go_wp2_with fail
  refine (order_any b a _ hb ha).mono ?_
  rintro e w1 ⟨rfl, rfl⟩
  rw [HX'.out]
  go_wp2
  go_ret
  exact ⟨rfl, below_drewN (Below.refl _ w) _⟩
theorem total_0b (a b c : Nat) (w : World) (ha : a < 18446744073709551616) (hb : b < 18446744073709551616) (hc : c < 18446744073709551616) (y z : Int) (hx : ordN a b = -1) (hx' : ordN b a = 1) (hy : ordN b c = y) (hz : ordN a c = z)
    (hq : ((a : Int) == (b : Int)) = false) (h6 : decide (0 < y) = false) (h7 : decide (z ≤ 0) = true) :
    Calls Try.prog 8 #[.int .u64 (a : Nat), .int .u64 (b : Nat), .int .u64 (c : Nat)] w fun e w' => e = .returned (.bool true) ∧ Below w.heap.size w w' := by
  have HX := Lib.hid hx; clear hx
  have HX' := Lib.hid hx'; clear hx'
  have HY := Lib.hid hy; clear hy
  have HZ := Lib.hid hz; clear hz
  go_enter Try.func8, Try.ntmps8
  go_wp2_with fail
  refine (order_any a b _ ha hb).mono ?_
  rintro e w1 ⟨rfl, rfl⟩
  rw [HX.out]
  go_wp2_with fail
  refine (order_any b c _ hb hc).mono ?_
  rintro e w1 ⟨rfl, rfl⟩
  rw [HY.out]
  go_wp2_with fail
  refine (order_any a c _ ha hc).mono ?_
  rintro e w1 ⟨rfl, rfl⟩
  rw [HZ.out]
  go_wp2_with fail
  refine (live_any _).mono ?_
  rintro e w1 ⟨rfl, n, rfl⟩
  go_wp2_with fail
  refine (order_any b a _ hb ha).mono ?_
  rintro e w1 ⟨rfl, rfl⟩
  rw [HX'.out]
  go_wp2
  go_ret
  exact ⟨rfl, below_drewN (Below.refl _ w) _⟩
theorem total_1a (a b c : Nat) (w : World) (ha : a < 18446744073709551616) (hb : b < 18446744073709551616) (hc : c < 18446744073709551616) (y z : Int) (hx : ordN a b = 0) (hx' : ordN b a = 0) (hy : ordN b c = y) (hz : ordN a c = z)
    (hq : ((a : Int) == (b : Int)) = true) (h6 : decide (0 < y) = true) :
    Calls Try.prog 8 #[.int .u64 (a : Nat), .int .u64 (b : Nat), .int .u64 (c : Nat)] w fun e w' => e = .returned (.bool true) ∧ Below w.heap.size w w' := by
  have HX := Lib.hid hx; clear hx
  have HX' := Lib.hid hx'; clear hx'
  have HY := Lib.hid hy; clear hy
  have HZ := Lib.hid hz; clear hz
  go_enter Try.func8, Try.ntmps8
  go_wp2_with fail
  refine (order_any a b _ ha hb).mono ?_
  rintro e w1 ⟨rfl, rfl⟩
  rw [HX.out]
  go_wp2_with fail
  refine (order_any b c _ hb hc).mono ?_
  rintro e w1 ⟨rfl, rfl⟩
  rw [HY.out]
  go_wp2_with fail
  refine (order_any a c _ ha hc).mono ?_
  rintro e w1 ⟨rfl, rfl⟩
  rw [HZ.out]
  go_wp2_with fail
  refine (live_any _).mono ?_
  rintro e w1 ⟨rfl, n, rfl⟩
  go_wp2_with fail
  refine (order_any b a _ hb ha).mono ?_
  rintro e w1 ⟨rfl, rfl⟩
  rw [HX'.out]
  go_wp2
  go_ret
  exact ⟨rfl, below_drewN (Below.refl _ w) _⟩
theorem total_1b (a b c : Nat) (w : World) (ha : a < 18446744073709551616) (hb : b < 18446744073709551616) (hc : c < 18446744073709551616) (y z : Int) (hx : ordN a b = 0) (hx' : ordN b a = 0) (hy : ordN b c = y) (hz : ordN a c = z)
    (hq : ((a : Int) == (b : Int)) = true) (h6 : decide (0 < y) = false) (h7 : decide (z ≤ 0) = true) :
    Calls Try.prog 8 #[.int .u64 (a : Nat), .int .u64 (b : Nat), .int .u64 (c : Nat)] w fun e w' => e = .returned (.bool true) ∧ Below w.heap.size w w' := by
  have HX := Lib.hid hx; clear hx
  have HX' := Lib.hid hx'; clear hx'
  have HY := Lib.hid hy; clear hy
  have HZ := Lib.hid hz; clear hz
  go_enter Try.func8, Try.ntmps8
  go_wp2_with fail
  refine (order_any a b _ ha hb).mono ?_
  rintro e w1 ⟨rfl, rfl⟩
  rw [HX.out]
  go_wp2_with fail
  refine (order_any b c _ hb hc).mono ?_
  rintro e w1 ⟨rfl, rfl⟩
  rw [HY.out]
  go_wp2_with fail
  refine (order_any a c _ ha hc).mono ?_
  rintro e w1 ⟨rfl, rfl⟩
  rw [HZ.out]
  go_wp2_with fail
  refine (live_any _).mono ?_
  rintro e w1 ⟨rfl, n, rfl⟩
  go_wp2_with fail
  refine (order_any b a _ hb ha).mono ?_
  rintro e w1 ⟨rfl, rfl⟩
  rw [HX'.out]
  go_wp2
  go_ret
  exact ⟨rfl, below_drewN (Below.refl _ w) _⟩
theorem total_2 (a b c : Nat) (w : World) (ha : a < 18446744073709551616) (hb : b < 18446744073709551616) (hc : c < 18446744073709551616) (y z : Int) (hx : ordN a b = 1) (hx' : ordN b a = -1) (hy : ordN b c = y) (hz : ordN a c = z)
    (hq : ((a : Int) == (b : Int)) = false) :
    Calls Try.prog 8 #[.int .u64 (a : Nat), .int .u64 (b : Nat), .int .u64 (c : Nat)] w fun e w' => e = .returned (.bool true) ∧ Below w.heap.size w w' := by
  have HX := Lib.hid hx; clear hx
  have HX' := Lib.hid hx'; clear hx'
  have HY := Lib.hid hy; clear hy
  have HZ := Lib.hid hz; clear hz
  go_enter Try.func8, Try.ntmps8
  go_wp2_with fail
  refine (order_any a b _ ha hb).mono ?_
  rintro e w1 ⟨rfl, rfl⟩
  rw [HX.out]
  go_wp2_with fail
  refine (order_any b c _ hb hc).mono ?_
  rintro e w1 ⟨rfl, rfl⟩
  rw [HY.out]
  go_wp2_with fail
  refine (order_any a c _ ha hc).mono ?_
  rintro e w1 ⟨rfl, rfl⟩
  rw [HZ.out]
  go_wp2_with fail
  refine (live_any _).mono ?_
  rintro e w1 ⟨rfl, n, rfl⟩
  go_wp2_with fail
  refine (order_any b a _ hb ha).mono ?_
  rintro e w1 ⟨rfl, rfl⟩
  rw [HX'.out]
  go_wp2
  go_ret
  exact ⟨rfl, below_drewN (Below.refl _ w) _⟩
theorem ord_back {a b : Nat} : ordN b a = - ordN a b := by
  rcases ord_cases a b with ⟨h, hk⟩ | ⟨h, hk⟩ | ⟨h, hk⟩ <;> rcases ord_cases b a with ⟨h', hk'⟩ | ⟨h', hk'⟩ | ⟨h', hk'⟩ <;> first | omega | (rw [h, h']; rfl)
theorem total_walk (a b c : Nat) (w : World) (ha : a < 18446744073709551616) (hb : b < 18446744073709551616) (hc : c < 18446744073709551616) :
    Calls Try.prog 8 #[.int .u64 (a : Nat), .int .u64 (b : Nat), .int .u64 (c : Nat)] w fun e w' => e = .returned (.bool true) ∧ Below w.heap.size w w' := by
  have hne : a = b → keyN a = keyN b := fun e => by rw [e]
  have hee : keyN a = keyN b → a = b := keyN_inj ha hb
  have hback := @ord_back a b
  rcases ord_cases a b with ⟨h, hk⟩ | ⟨h, hk⟩ | ⟨h, hk⟩
  · have hq : ((a : Int) == (b : Int)) = false := by rw [beq_eq_false_iff_ne]; intro e; have := hne (by omega); omega
    rcases ord_cases b c with ⟨h', hk'⟩ | ⟨h', hk'⟩ | ⟨h', hk'⟩
    · exact total_0b a b c w ha hb hc _ _ h (by rw [hback, h]; rfl) rfl rfl hq (by rw [h']; rfl) (by rcases ord_cases a c with ⟨g, gk⟩ | ⟨g, gk⟩ | ⟨g, gk⟩ <;> first | omega | (rw [g]; rfl))
    · exact total_0b a b c w ha hb hc _ _ h (by rw [hback, h]; rfl) rfl rfl hq (by rw [h']; rfl) (by rcases ord_cases a c with ⟨g, gk⟩ | ⟨g, gk⟩ | ⟨g, gk⟩ <;> first | omega | (rw [g]; rfl))
    · exact total_0a a b c w ha hb hc _ _ h (by rw [hback, h]; rfl) rfl rfl hq (by rw [h']; rfl)
  · have hq : ((a : Int) == (b : Int)) = true := by rw [hee hk]; simp
    rcases ord_cases b c with ⟨h', hk'⟩ | ⟨h', hk'⟩ | ⟨h', hk'⟩
    · exact total_1b a b c w ha hb hc _ _ h (by rw [hback, h]; rfl) rfl rfl hq (by rw [h']; rfl) (by rcases ord_cases a c with ⟨g, gk⟩ | ⟨g, gk⟩ | ⟨g, gk⟩ <;> first | omega | (rw [g]; rfl))
    · exact total_1b a b c w ha hb hc _ _ h (by rw [hback, h]; rfl) rfl rfl hq (by rw [h']; rfl) (by rcases ord_cases a c with ⟨g, gk⟩ | ⟨g, gk⟩ | ⟨g, gk⟩ <;> first | omega | (rw [g]; rfl))
    · exact total_1a a b c w ha hb hc _ _ h (by rw [hback, h]; rfl) rfl rfl hq (by rw [h']; rfl)
  · have hq : ((a : Int) == (b : Int)) = false := by rw [beq_eq_false_iff_ne]; intro e; have := hne (by omega); omega
    exact total_2 a b c w ha hb hc _ _ h (by rw [hback, h]) rfl rfl hq

set_option maxRecDepth 100000 in
theorem realTotal_lifted (os : Os) (started : os.Started) (H : Type) (enc : TypeId × Value → H) :
    ReturnsInHanded {} Try.checked os 8 .any (Rows.realTotalSpec.pre6 enc Try.prog Try.f8 Rows.realTotalRow.domain false) (Rows.realTotalSpec.post enc Try.prog Try.f8 false true false false) := by
  refine returnsInHanded_of_change (C := Try.checked) ownKn started (by kernel_rfl) Try.func8
    (ChangeSpec.witness6 (enc := enc) (C := Try.checked) false ⟨#[], #[.int .u64 0, .int .u64 0, .int .u64 0], []⟩ 8 (by kernel_rfl) (by kernel_rfl) (by kernel_rfl) (by kernel_rfl)) ?_
  intro W base args ds gs before hval0 hW hcnd _
  have hval : ∀ (j : Nat) t v, Try.f8.params[j]? = some t → args[j]? = some v → Value.okWide Try.prog W .any base t v := hval0
  have hW' := hW
  obtain ⟨p, q, hA0, hV, rfl, hfz, hnd⟩ := hW
  have hA : DataW.TrodAll enc Try.prog W 0 (fun _ => true) true Try.f8.params.toList args.toList ds p := hA0
  rw [Try.params8] at hA hval
  obtain ⟨v0, vs0, d0, ds0, p0, q0, hargs, rfl, rfl, h0, r0⟩ := trodAll_cons hA
  obtain ⟨v1, vs1, d1, ds1, p1, q1, rfl, rfl, rfl, h1, r1⟩ := trodAll_cons r0
  obtain ⟨v2, vs2, d2, ds2, p2, q2, rfl, rfl, rfl, h2, r2⟩ := trodAll_cons r1
  obtain ⟨rfl, rfl, rfl⟩ := trodAll_nil r2
  obtain rfl : args = #[v0, v1, v2] := by cases args; simp_all
  obtain ⟨rfl, rfl⟩ := trodVars_none hV
  obtain ⟨z0, rfl, rfl, rfl, w0⟩ := open_int Try.underlying22 (hval 0 22 v0 rfl rfl) h0
  obtain ⟨z1, rfl, rfl, rfl, w1⟩ := open_int Try.underlying22 (hval 1 22 v1 rfl rfl) h1
  obtain ⟨z2, rfl, rfl, rfl, w2⟩ := open_int Try.underlying22 (hval 2 22 v2 rfl rfl) h2
  clear hA0 hval0 hA
  have b0 := bounds_u64 w0
  obtain ⟨n0, rfl⟩ := Int.eq_ofNat_of_zero_le b0.1
  have b1 := bounds_u64 w1
  obtain ⟨n1, rfl⟩ := Int.eq_ofNat_of_zero_le b1.1
  have b2 := bounds_u64 w2
  obtain ⟨n2, rfl⟩ := Int.eq_ofNat_of_zero_le b2.1
  refine (total_walk n0 n1 n2 W (by omega) (by omega) (by omega)).mono fun e W' ⟨he, hg⟩ => ?_
  subst he
  exact ⟨_, rfl, law_end laidOut (by kernel_rfl) (by kernel_rfl) Try.underlying4 rfl hW' ⟨rfl, rfl, rfl⟩ hg⟩

theorem realTotal_holds : Rows.RealTotalSaid :=
  OpenClaim.holds_of_wide 8 Try.f8 rfl rfl rfl rfl rfl rfl rfl ⟨rfl, rfl, rfl, rfl, rfl⟩ rfl rfl rfl rfl rfl (by kernel_rfl) Try.func8 (by kernel_rfl)
    (of_decide_eq_true (by kernel_rfl)) (by unfold Func.isWrapper; first | (rw [if_pos (by decide +kernel)]; kernel_rfl) | (rw [if_neg (by decide +kernel)]; exact ⟨rfl, rfl⟩))
    (fun os started H enc _ => realTotal_lifted os started H enc)
#print axioms realTotal_holds
end
end Go.Proofs.Ytlaodfkcfclpmaa
