/-
  RealTurns (P4.10): of every two values sums and products do not hang on which one is first, a difference is a sum with the opposite, and what is no number is told in one way. No condition.
-/
import Derived.Test.YtlaodfkcfclpmaaLaw
import Derived.Test.YtlaodfkcfclpmaaFda
namespace Go.Proofs.Ytlaodfkcfclpmaa
set_option linter.unusedVariables false
set_option linter.unusedSimpArgs false
open Go.ChangeShapes Go.WideShapes Go.ChangeAt Go.RowKit

section
set_option maxHeartbeats 1600000
set_option maxRecDepth 100000
theorem kind_told {x : Nat} (h : ToldOk x) : (kindN x == 1) = false ∧ ((kindN x == 0) = false ∨ ((kindN x == 0) = true ∧ x = 9221120237041090561)) := by
  rcases h with rfl | h
  · exact ⟨by decide +kernel, .inr ⟨by decide +kernel, rfl⟩⟩
  · have hne : x ≠ 9218868437227405314 := by rintro rfl; revert h; decide +kernel
    unfold kindN
    rw [if_neg hne, if_neg (by rw [h]; decide)]
    split
    · exact ⟨rfl, .inl rfl⟩
    · split
      · exact ⟨rfl, .inl rfl⟩
      · split <;> exact ⟨rfl, .inl rfl⟩
theorem turns_walk (a b : Nat) (w : World) (ha : a < 18446744073709551616) (hb : b < 18446744073709551616) :
    Calls Try.prog 10 #[.int .u64 (a : Nat), .int .u64 (b : Nat)] w fun e w' => e = .returned (.bool true) ∧ Below w.heap.size w w' := by
  go_enter Try.func10, Try.ntmps10
  go_wp2_with fail
  refine (live_any _).mono ?_
  rintro e w1 ⟨rfl, nl, rfl⟩
  go_wp2_with fail
  have hcell : ∀ k : Nat, k < 7 → ((w.drewN nl).alloc (.cells #[.int .i64 0, .int .i64 1, .int .i64 2, .int .i64 3, .int .i64 4, .int .i64 5, .int .i64 6] 3)).cell? ⟨w.heap.size, k, none⟩ = some (.int .i64 (k : Int)) := by
    intro k hk
    have h := cell_blk (heap_alloc_new (w.drewN nl) (.cells #[.int .i64 0, .int .i64 1, .int .i64 2, .int .i64 3, .int .i64 4, .int .i64 5, .int .i64 6] 3)) k
    refine h.trans ?_
    rcases (by omega : k = 0 ∨ k = 1 ∨ k = 2 ∨ k = 3 ∨ k = 4 ∨ k = 5 ∨ k = 6) with rfl | rfl | rfl | rfl | rfl | rfl | rfl <;> rfl
  have hbel : Below w.heap.size w ((w.drewN nl).alloc (.cells #[.int .i64 0, .int .i64 1, .int .i64 2, .int .i64 3, .int .i64 4, .int .i64 5, .int .i64 6] 3)) :=
    (below_drewN (Below.refl _ w) nl).alloc (Nat.le_refl _) _
  generalize (w.drewN nl).alloc (.cells #[.int .i64 0, .int .i64 1, .int .i64 2, .int .i64 3, .int .i64 4, .int .i64 5, .int .i64 6] 3) = W1 at *
  have HB := Lib.hid hbel; clear hbel
  have HC := Lib.hid hcell; clear hcell
  go_loopw [12] (fun i wr => ∃ k n : Nat, k ≤ 7 ∧ i = .int .i64 k ∧ wr = W1.drewN n) (fun i _ => 7 - (intOf i).toNat)
  case atStart => exact ⟨0, 0, by omega, rfl, rfl⟩
  case round =>
    obtain ⟨k, n, hk, rfl, rfl⟩ := hrel
    by_cases hlt : k < 7
    · have hc := HC.out k hlt
      obtain ⟨x, hx⟩ : ∃ x, doN (k : Int) a b = x := ⟨_, rfl⟩
      have hok := doN_ok (k : Int) a b
      have hxl := doN_lt (k : Int) ha hb
      rw [hx] at hok hxl
      have HX := Lib.hid hx; clear hx
      obtain ⟨q1, q2⟩ := kind_told hok
      clear hok
      obtain ⟨kx, hkx⟩ : ∃ kx, kindN x = kx := ⟨_, rfl⟩
      rw [hkx] at q1 q2
      have HK := Lib.hid hkx; clear hkx
      go_wp2_with fail
      refine (do_any (k : Int) a b _ ha hb).mono ?_
      rintro e w1 ⟨rfl, n1, rfl⟩
      rw [HX.out]
      go_wp2_with fail
      refine (kind_any x _ hxl).mono ?_
      rintro e w1 ⟨rfl, rfl⟩
      rw [HK.out]
      rcases q2 with q2 | ⟨q2, rfl⟩
      · go_wp2_with fail
        refine (kind_any _ _ hxl).mono ?_
        rintro e w1 ⟨rfl, rfl⟩
        rw [HK.out]
        go_wp2
        go_roundw
        case rel => exact ⟨k+1, _, by omega, by go_num, rfl⟩
        case measure => simp [intOf]; omega
      · go_wp2_with fail
        refine (kind_any _ _ hxl).mono ?_
        rintro e w1 ⟨rfl, rfl⟩
        rw [HK.out]
        go_wp2
        go_roundw
        case rel => exact ⟨k+1, _, by omega, by go_num, rfl⟩
        case measure => simp [intOf]; omega
    · obtain rfl : k = 7 := by omega
      obtain ⟨x0, hx0⟩ : ∃ x, doN 0 a b = x := ⟨_, rfl⟩
      obtain ⟨x2, hx2⟩ : ∃ x, doN 2 a b = x := ⟨_, rfl⟩
      obtain ⟨x1, hx1⟩ : ∃ x, doN 1 a b = x := ⟨_, rfl⟩
      obtain ⟨y, hy⟩ : ∃ y, oneN 1 b = y := ⟨_, rfl⟩
      have hx0' : doN 0 b a = x0 := by rw [← hx0, doN_0, doN_0, add_comm_bits]
      have hx2' : doN 2 b a = x2 := by rw [← hx2, doN_2, doN_2, mul_comm_bits]
      have hx1' : doN 0 a y = x1 := by rw [← hx1, ← hy, sub_opp hb]
      have hyl : y < 18446744073709551616 := by rw [← hy, oneN_1]; exact tellN_lt (flip_lt hb)
      have X0 := Lib.hid hx0; clear hx0
      have X1 := Lib.hid hx1; clear hx1
      have X2 := Lib.hid hx2; clear hx2
      have X0' := Lib.hid hx0'; clear hx0'
      have X1' := Lib.hid hx1'; clear hx1'
      have X2' := Lib.hid hx2'; clear hx2'
      have HY := Lib.hid hy; clear hy
      go_wp2_with fail
      refine (do_any 0 a b _ ha hb).mono ?_
      rintro e w1 ⟨rfl, m1, rfl⟩
      rw [X0.out]
      go_wp2_with fail
      refine (do_any 0 b a _ hb ha).mono ?_
      rintro e w1 ⟨rfl, m2, rfl⟩
      rw [X0'.out]
      go_wp2_with fail
      refine (do_any 2 a b _ ha hb).mono ?_
      rintro e w1 ⟨rfl, m3, rfl⟩
      rw [X2.out]
      go_wp2_with fail
      refine (do_any 2 b a _ hb ha).mono ?_
      rintro e w1 ⟨rfl, m4, rfl⟩
      rw [X2'.out]
      go_wp2_with fail
      refine (do_any 1 a b _ ha hb).mono ?_
      rintro e w1 ⟨rfl, m5, rfl⟩
      rw [X1.out]
      go_wp2_with fail
      refine (one_any' 1 b _ hb).mono ?_
      rintro e w1 ⟨rfl, m6, rfl⟩
      rw [HY.out]
      go_wp2_with fail
      refine (do_any 0 a y _ ha hyl).mono ?_
      rintro e w1 ⟨rfl, m7, rfl⟩
      rw [X1'.out]
      go_wp2
      go_ret
      exact ⟨rfl, below_drewN HB.out _⟩

set_option maxRecDepth 100000 in
theorem realTurns_lifted (os : Os) (started : os.Started) (H : Type) (enc : TypeId × Value → H) :
    ReturnsInHanded {} Try.checked os 10 .any (Rows.realTurnsSpec.pre6 enc Try.prog Try.f10 Rows.realTurnsRow.domain false) (Rows.realTurnsSpec.post enc Try.prog Try.f10 false true false false) := by
  refine returnsInHanded_of_change (C := Try.checked) ownKn started (by kernel_rfl) Try.func10
    (ChangeSpec.witness6 (enc := enc) (C := Try.checked) false ⟨#[], #[.int .u64 0, .int .u64 0], []⟩ 8 (by kernel_rfl) (by kernel_rfl) (by kernel_rfl) (by kernel_rfl)) ?_
  intro W base args ds gs before hval0 hW hcnd _
  have hval : ∀ (j : Nat) t v, Try.f10.params[j]? = some t → args[j]? = some v → Value.okWide Try.prog W .any base t v := hval0
  have hW' := hW
  obtain ⟨p, q, hA0, hV, rfl, hfz, hnd⟩ := hW
  have hA : DataW.TrodAll enc Try.prog W 0 (fun _ => true) true Try.f10.params.toList args.toList ds p := hA0
  rw [Try.params10] at hA hval
  obtain ⟨v0, vs0, d0, ds0, p0, q0, hargs, rfl, rfl, h0, r0⟩ := trodAll_cons hA
  obtain ⟨v1, vs1, d1, ds1, p1, q1, rfl, rfl, rfl, h1, r1⟩ := trodAll_cons r0
  obtain ⟨rfl, rfl, rfl⟩ := trodAll_nil r1
  obtain rfl : args = #[v0, v1] := by cases args; simp_all
  obtain ⟨rfl, rfl⟩ := trodVars_none hV
  obtain ⟨z0, rfl, rfl, rfl, w0⟩ := open_int Try.underlying22 (hval 0 22 v0 rfl rfl) h0
  obtain ⟨z1, rfl, rfl, rfl, w1⟩ := open_int Try.underlying22 (hval 1 22 v1 rfl rfl) h1
  clear hA0 hval0 hA
  have b0 := bounds_u64 w0
  obtain ⟨n0, rfl⟩ := Int.eq_ofNat_of_zero_le b0.1
  have b1 := bounds_u64 w1
  obtain ⟨n1, rfl⟩ := Int.eq_ofNat_of_zero_le b1.1
  refine (turns_walk n0 n1 W (by omega) (by omega)).mono fun e W' ⟨he, hg⟩ => ?_
  subst he
  exact ⟨_, rfl, law_end laidOut (by kernel_rfl) (by kernel_rfl) Try.underlying4 rfl hW' ⟨rfl, rfl, rfl⟩ hg⟩

theorem realTurns_holds : Rows.RealTurnsSaid :=
  OpenClaim.holds_of_wide 10 Try.f10 rfl rfl rfl rfl rfl rfl rfl ⟨rfl, rfl, rfl, rfl, rfl⟩ rfl rfl rfl rfl rfl (by kernel_rfl) Try.func10 (by kernel_rfl)
    (of_decide_eq_true (by kernel_rfl)) (by unfold Func.isWrapper; first | (rw [if_pos (by decide +kernel)]; kernel_rfl) | (rw [if_neg (by decide +kernel)]; exact ⟨rfl, rfl⟩))
    (fun os started H enc _ => realTurns_lifted os started H enc)
#print axioms realTurns_holds
end
end Go.Proofs.Ytlaodfkcfclpmaa
