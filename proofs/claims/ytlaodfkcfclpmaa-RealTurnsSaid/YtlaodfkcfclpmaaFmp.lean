/-
  What is left of one value by another one, of both sides.
-/
import Derived.Test.YtlaodfkcfclpmaaFmo
import Derived.Test.YtlaodfkcfclpmaaFwh
namespace Go.Proofs.Ytlaodfkcfclpmaa
set_option linter.unusedVariables false
set_option linter.unusedSimpArgs false
open Go.RowKit

theorem flip_flip {v : Nat} (h : v < 18446744073709551616) : flip (flip v) = v := by
  unfold flip
  by_cases h1 : v < 9223372036854775808
  · rw [if_pos h1, if_neg (by omega)]; omega
  · rw [if_neg h1, if_pos (by omega)]; omega
section
set_option maxHeartbeats 1600000
set_option maxRecDepth 100000
theorem frexp_inf (w : World) : Calls Try.prog 86 #[.float .f64 9218868437227405312] w fun e w' => e = .returned (.tuple #[.float .f64 9218868437227405312, .int .i64 0]) ∧ w = w' := by
  have hc : (FloatKind.f64.format.order 9218868437227405312 0 == some .eq) = false := by kernel_rfl
  go_enter Try.func86, Try.ntmps86
  go_wp2_with fail
  refine (isinf_any 9218868437227405312 w (by decide)).mono ?_
  rintro e w1 ⟨rfl, rfl⟩
  rw [show infB 9218868437227405312 = true by decide +kernel]
  go_wp2
  go_ret2
  exact ⟨rfl, rfl⟩
theorem Frexp_inf (w : World) : Calls Try.prog 71 #[.float .f64 9218868437227405312] w fun e w' => e = .returned (.tuple #[.float .f64 9218868437227405312, .int .i64 0]) ∧ w = w' := by
  go_enter Try.func71, Try.ntmps71
  go_wp2_with fail
  refine (frexp_inf w).mono ?_
  rintro e w1 ⟨rfl, rfl⟩
  go_wp2
  go_ret2
  exact ⟨rfl, rfl⟩
theorem mod_exit_pos (x y yv fy : Nat) (yx : Int) (w : World) (hx : x < 18446744073709551616) (hy : y < 18446744073709551616) (hyz : zeroB y = false) (hxi : infB x = false) (hxn : nanB x = false) (hyn : nanB y = false)
    (hlt0 : (FloatKind.f64.format.order x 0 == some .lt) = false) (habs : y % 9223372036854775808 = yv)
    (hFy : Calls Try.prog 71 #[.float .f64 yv] w fun e w' => e = .returned (.tuple #[.float .f64 fy, .int .i64 yx]) ∧ w = w')
    (hge : (FloatKind.f64.format.order x yv == some .gt || FloatKind.f64.format.order x yv == some .eq) = false) :
    Calls Try.prog 60 #[.float .f64 x, .float .f64 y] w fun e w' => e = .returned (.float .f64 x) ∧ w = w' := by
  have hz := order_0 hy
  rw [hyz] at hz
  clear hyz
  have H2 := Lib.hid hxi; clear hxi
  have H3 := Lib.hid hxn; clear hxn
  have H4 := Lib.hid hyn; clear hyn
  have HA := Lib.hid habs; clear habs
  have HFy := Lib.hid hFy; clear hFy
  go_enter Try.func60, Try.ntmps60
  go_wp2_with fail
  refine (isinf_any x w hx).mono ?_
  rintro e w1 ⟨rfl, rfl⟩
  rw [H2.out]
  go_wp2_with fail
  refine (isnan_any x w).mono ?_
  rintro e w1 ⟨rfl, rfl⟩
  rw [H3.out]
  go_wp2_with fail
  refine (isnan_any y w).mono ?_
  rintro e w1 ⟨rfl, rfl⟩
  rw [H4.out]
  go_wp2_with fail
  refine (abs_any y w hy).mono ?_
  rintro e w1 ⟨rfl, rfl⟩
  rw [HA.out]
  go_wp2_with fail
  refine HFy.out.mono ?_
  rintro e w1 ⟨rfl, rfl⟩
  go_wp2
  go_loopw [7] (fun q wr => q = .float .f64 x ∧ wr = w) (fun _ _ => 0)
  case atStart => exact ⟨rfl, rfl⟩
  case round =>
    obtain ⟨rfl, rfl⟩ := hrel
    go_wp2
    go_ret
    exact ⟨rfl, rfl⟩
theorem mod_exit_neg (x y yv fy : Nat) (yx : Int) (w : World) (hx : x < 18446744073709551616) (hy : y < 18446744073709551616) (hyz : zeroB y = false) (hxi : infB x = false) (hxn : nanB x = false) (hyn : nanB y = false)
    (hlt0 : (FloatKind.f64.format.order x 0 == some .lt) = true) (habs : y % 9223372036854775808 = yv)
    (hFy : Calls Try.prog 71 #[.float .f64 yv] w fun e w' => e = .returned (.tuple #[.float .f64 fy, .int .i64 yx]) ∧ w = w')
    (hge : (FloatKind.f64.format.order (flip x) yv == some .gt || FloatKind.f64.format.order (flip x) yv == some .eq) = false) :
    Calls Try.prog 60 #[.float .f64 x, .float .f64 y] w fun e w' => e = .returned (.float .f64 x) ∧ w = w' := by
  have hng : ∀ w, (Op.unary .neg (.float .f64 x)).run Try.prog w = .ok (.float .f64 (flip x)) w := fun w => by rw [← negFloat_flip _ hx]; rfl
  have hng2 : ∀ w, (Op.unary .neg (.float .f64 (flip x))).run Try.prog w = .ok (.float .f64 x) w := fun w => by
    have := negFloat_flip (flip x) (flip_lt hx)
    rw [flip_flip hx] at this
    exact (show (Op.unary .neg (.float .f64 (flip x))).run Try.prog w = .ok (.float .f64 (Op.negFloat .f64 (flip x))) w from rfl).trans (by rw [this])
  generalize flip x = fx at *
  have hz := order_0 hy
  rw [hyz] at hz
  clear hyz
  have H2 := Lib.hid hxi; clear hxi
  have H3 := Lib.hid hxn; clear hxn
  have H4 := Lib.hid hyn; clear hyn
  have HA := Lib.hid habs; clear habs
  have HFy := Lib.hid hFy; clear hFy
  go_enter Try.func60, Try.ntmps60
  go_wp2_with fail
  refine (isinf_any x w hx).mono ?_
  rintro e w1 ⟨rfl, rfl⟩
  rw [H2.out]
  go_wp2_with fail
  refine (isnan_any x w).mono ?_
  rintro e w1 ⟨rfl, rfl⟩
  rw [H3.out]
  go_wp2_with fail
  refine (isnan_any y w).mono ?_
  rintro e w1 ⟨rfl, rfl⟩
  rw [H4.out]
  go_wp2_with fail
  refine (abs_any y w hy).mono ?_
  rintro e w1 ⟨rfl, rfl⟩
  rw [HA.out]
  go_wp2_with fail
  refine HFy.out.mono ?_
  rintro e w1 ⟨rfl, rfl⟩
  go_wp2
  go_loopw [7] (fun q wr => q = .float .f64 fx ∧ wr = w) (fun _ _ => 0)
  case atStart => exact ⟨rfl, rfl⟩
  case round =>
    obtain ⟨rfl, rfl⟩ := hrel
    go_wp2
    go_ret
    exact ⟨rfl, rfl⟩
/-- What is left of one number by another one, as bits. -/
def modR (x y : Nat) : Nat :=
  if zeroB y || infB x || nanB x || nanB y then 9221120237041090561 else if infB y then x
  else if sizeD (FloatKind.f64.format.read x) = 0 then x
  else if negN x then flip (wordV false (sizeD (FloatKind.f64.format.read x) % sizeD (FloatKind.f64.format.read y)))
  else wordV false (sizeD (FloatKind.f64.format.read x) % sizeD (FloatKind.f64.format.read y))
theorem size_word (s : Bool) {V : Nat} (h : Rep V) : sizeD (FloatKind.f64.format.read (wordV s V)) = V := by
  have e2 : ∀ m e, sizeD (.number s m e) = m * 2 ^ (e + 1074).toNat := fun _ _ => rfl
  rw [read_wordV s h, e2, show ((zOf V : Int) - 1074 + 1074).toNat = zOf V by omega, digN_mul h]
theorem neg_wordV (s : Bool) {V : Nat} (h : Rep V) : negN (wordV s V) = s := by
  have := (wordV_lt s h).2.2
  unfold negN wordV wordN
  cases s
  · rw [decide_eq_false_iff_not]; simp only [Bool.false_eq_true, if_false]; omega
  · rw [decide_eq_true_eq]; simp only [if_true]; omega
theorem fin_of {v : Nat} (hv : v < 18446744073709551616) (hn : nanB v = false) (hi : infB v = false) : ∃ s V, Rep V ∧ v = wordV s V := by
  have h1 := num_read hn
  cases hr : FloatKind.f64.format.read v with
  | nan s t => exact absurd hr (h1 s t)
  | number s m e =>
    obtain ⟨V, hV, he⟩ := fin_word hv hr
    exact ⟨s, V, hV, he⟩
  | infinity s =>
    have h := hr
    rw [read_eq] at h
    unfold infB at hi
    rw [decide_eq_false_iff_not] at hi
    split at h
    · cases h
    · split at h
      · cases h
      · first | cases h | (split at h <;> first | omega | cases h)
theorem ge_inf (s : Bool) {V : Nat} (h : Rep V) : (FloatKind.f64.format.order (wordV s V) 9218868437227405312 == some .gt || FloatKind.f64.format.order (wordV s V) 9218868437227405312 == some .eq) = false := by
  have e : FloatKind.f64.format.order (wordV s V) 9218868437227405312 = (FloatKind.f64.format.read (wordV s V)).order (.infinity false) := rfl
  rw [e, read_wordV s h]; rfl
theorem flip_false {X : Nat} (h : Rep X) : flip (wordV false X) = wordV true X := by
  have hl := (wordV_lt true h).1
  have := flip_flip hl
  rw [flip_word h] at this
  exact this
theorem ge_zero {Y : Nat} (hY : Rep Y) (h0 : Y ≠ 0) : (FloatKind.f64.format.order (wordV true 0) (wordV false Y) == some .gt || FloatKind.f64.format.order (wordV true 0) (wordV false Y) == some .eq) = false := by
  have e : FloatKind.f64.format.order (wordV true 0) (wordV false Y) = (FloatKind.f64.format.read (wordV true 0)).order (FloatKind.f64.format.read (wordV false Y)) := rfl
  have hd : digN Y ≠ 0 := by
    intro e
    have := digN_mul hY
    rw [e, Nat.zero_mul] at this
    exact h0 this.symm
  rw [e, read_wordV true rep_zero, read_wordV false hY]
  have e1 : Ieee.Datum.order (.number true (digN 0) ((zOf 0 : Int) - 1074)) (.number false (digN Y) ((zOf Y : Int) - 1074)) = some (compare (Ieee.signed true (digN 0) ((zOf 0 : Int) - 1074 - min ((zOf 0 : Int) - 1074) ((zOf Y : Int) - 1074)).toNat) (Ieee.signed false (digN Y) ((zOf Y : Int) - 1074 - min ((zOf 0 : Int) - 1074) ((zOf Y : Int) - 1074)).toNat)) := rfl
  rw [e1]
  have hp : 0 < digN Y * 2 ^ ((zOf Y : Int) - 1074 - min ((zOf 0 : Int) - 1074) ((zOf Y : Int) - 1074)).toNat := Nat.mul_pos (by omega) (Nat.two_pow_pos _)
  have a1 : ∀ k, Ieee.signed true (digN 0) k = 0 := fun k => by unfold Ieee.signed; rw [Nat.shiftLeft_eq, show digN 0 = 0 from rfl, Nat.zero_mul]; rfl
  rw [a1]
  unfold Ieee.signed
  simp only [Bool.false_eq_true, if_false, Nat.shiftLeft_eq]
  generalize digN Y * 2 ^ ((zOf Y : Int) - 1074 - min ((zOf 0 : Int) - 1074) ((zOf Y : Int) - 1074)).toNat = q at *
  rw [Int.compare_eq_lt.2 (by omega)]
  rfl
theorem wordV_nonzero (t : Bool) {Y : Nat} (h : Rep Y) (h0 : Y ≠ 0) : zeroB (wordV t Y) = false := by
  have := order_0 (wordV_lt false h).1
  rw [order_zero h h0] at this
  have e : zeroB (wordV t Y) = zeroB (wordV false Y) := by unfold zeroB; rw [abs_word t h, abs_word false h |>.symm, Nat.mod_mod, abs_word false h]
  rw [e]; exact this.symm
theorem wordV_noinf (t : Bool) {Y : Nat} (h : Rep Y) : infB (wordV t Y) = false := by
  have h1 := inf_wordV h
  have e : infB (wordV t Y) = infB (wordV false Y) := by unfold infB; rw [abs_word t h, abs_word false h |>.symm, Nat.mod_mod, abs_word false h]
  rw [e]; exact h1
theorem mod_fin (s t : Bool) {X Y : Nat} (hX : Rep X) (hY : Rep Y) (h0 : Y ≠ 0) (w : World) :
    Calls Try.prog 60 #[.float .f64 (wordV s X), .float .f64 (wordV t Y)] w fun e w' => e = .returned (.float .f64 (modR (wordV s X) (wordV t Y))) ∧ w = w' := by
  have e : modR (wordV s X) (wordV t Y) = if X = 0 then wordV s X else if s then flip (wordV false (X % Y)) else wordV false (X % Y) := by
    unfold modR
    rw [wordV_nonzero t hY h0, wordV_noinf s hX, (wordV_lt s hX).2.1, (wordV_lt t hY).2.1, wordV_noinf t hY, size_word s hX, size_word t hY, neg_wordV s hX]
    rw [if_neg (by decide), if_neg (by decide)]
  rw [e]
  by_cases hX0 : X = 0
  · subst hX0
    rw [if_pos rfl]
    cases s
    · have := mod_pos t rep_zero hY h0 w
      rw [Nat.zero_mod] at this
      exact this
    · refine mod_exit_pos _ _ (wordV false Y) (frN Y) ((Y.log2 : Int) - 1073) w (wordV_lt true rep_zero).1 (wordV_lt t hY).1 (wordV_nonzero t hY h0) (wordV_noinf true rep_zero) (wordV_lt true rep_zero).2.1 (wordV_lt t hY).2.1 ?_ (abs_word t hY) (Frexp_any hY h0 w) (ge_zero hY h0)
      rw [lt_0 rep_zero, decide_eq_false (by simp)]; rfl
  · rw [if_neg hX0]
    cases s
    · rw [if_neg (by decide)]; exact mod_pos t hX hY h0 w
    · rw [if_pos rfl]; exact mod_neg t hX hX0 hY h0 w
theorem mod_any (x y : Nat) (w : World) (hx : x < 18446744073709551616) (hy : y < 18446744073709551616) :
    Calls Try.prog 60 #[.float .f64 x, .float .f64 y] w fun e w' => e = .returned (.float .f64 (modR x y)) ∧ w = w' := by
  cases h1 : zeroB y with
  | true => rw [show modR x y = 9221120237041090561 by unfold modR; rw [h1]; exact if_pos (by simp)]; exact mod_bad1 x y w hx hy h1
  | false =>
    cases h2 : infB x with
    | true => rw [show modR x y = 9221120237041090561 by unfold modR; rw [h1, h2]; exact if_pos (by simp)]; exact mod_bad2 x y w hx hy h1 h2
    | false =>
      cases h3 : nanB x with
      | true => rw [show modR x y = 9221120237041090561 by unfold modR; rw [h1, h2, h3]; exact if_pos (by simp)]; exact mod_bad3 x y w hx hy h1 h2 h3
      | false =>
        cases h4 : nanB y with
        | true => rw [show modR x y = 9221120237041090561 by unfold modR; rw [h1, h2, h3, h4]; exact if_pos (by simp)]; exact mod_bad4 x y w hx hy h1 h2 h3 h4
        | false =>
          obtain ⟨s, X, hX, rfl⟩ := fin_of hx h3 h2
          cases h5 : infB y with
          | true =>
            rw [show modR (wordV s X) y = wordV s X by unfold modR; rw [h1, h2, h3, h4, h5]; rw [if_neg (by decide), if_pos rfl]]
            have habs : y % 9223372036854775808 = 9218868437227405312 := by unfold infB at h5; rwa [decide_eq_true_eq] at h5
            cases hs : (s && decide (X ≠ 0)) with
            | false => exact mod_exit_pos _ y _ _ _ w hx hy h1 h2 h3 h4 (by rw [lt_0 hX, hs]) habs (Frexp_inf w) (ge_inf s hX)
            | true =>
              have hst : s = true := by cases s; cases hs; rfl
              subst hst
              exact mod_exit_neg _ y _ _ _ w hx hy h1 h2 h3 h4 (by rw [lt_0 hX, hs]) habs (Frexp_inf w) (by rw [flip_word hX]; exact ge_inf false hX)
          | false =>
            obtain ⟨t, Y, hY, rfl⟩ := fin_of hy h4 h5
            have h0 : Y ≠ 0 := by
              intro e; subst e
              cases t
              · rw [wordV_zero] at h1; cases h1
              · rw [wordV_zero] at h1; cases h1
            exact mod_fin s t hX hY h0 w
theorem Mod_any (x y : Nat) (w : World) (hx : x < 18446744073709551616) (hy : y < 18446744073709551616) :
    Calls Try.prog 42 #[.float .f64 x, .float .f64 y] w fun e w' => e = .returned (.float .f64 (modR x y)) ∧ w = w' := by
  have hf := mod_any x y w hx hy
  generalize modR x y = r at *
  have HF := Lib.hid hf; clear hf
  go_enter Try.func42, Try.ntmps42
  go_wp2_with fail
  refine HF.out.mono ?_
  rintro e w1 ⟨rfl, rfl⟩
  go_wp2
  go_ret
  exact ⟨rfl, rfl⟩
theorem do_mod_any (a b : Nat) (w : World) (ha : a < 18446744073709551616) (hb : b < 18446744073709551616) :
    Calls Try.prog 22 #[.int .i64 4, .int .u64 (a : Nat), .int .u64 (b : Nat)] w fun e w' => e = .returned (.int .u64 (tellN (modR a b) : Nat)) ∧ w = w' := by
  obtain ⟨r, hr⟩ : ∃ r, r = modR a b := ⟨_, rfl⟩
  rw [← hr]
  have HR := Lib.hid hr; clear hr
  go_enter Try.func22, Try.ntmps22
  go_wp2_with fail
  refine (number_any a w).mono ?_
  rintro e w1 ⟨rfl, rfl⟩
  go_wp2_with fail
  refine (number_any b w).mono ?_
  rintro e w1 ⟨rfl, rfl⟩
  go_wp2_with fail
  refine (Mod_any a b w ha hb).mono ?_
  rintro e w1 ⟨rfl, rfl⟩
  rw [← HR.out]
  go_wp2_with fail
  refine (told_any r w).mono ?_
  rintro e w1 ⟨rfl, rfl⟩
  go_wp2
  go_ret
  exact ⟨rfl, rfl⟩
theorem zero_fact (v : Nat) : (IntKind.u64.wrap ((v : Int) * 2) == 0) = zeroB v := by
  unfold zeroB; rw [wrapU, Bool.beq_eq_decide_eq]; apply decide_eq_decide.2; omega
theorem left_1 (a b : Nat) (w : World) (ha : a < 18446744073709551616) (hb : b < 18446744073709551616) (h0 : nanB a = true) :
    Calls Try.prog 45 #[.int .u64 (a : Nat), .int .u64 (b : Nat)] w fun e w' => e = .returned (.int .u64 (9221120237041090561 : Nat)) ∧ w = w' := by
  have H0 := Lib.hid h0; clear h0
  go_enter Try.func45, Try.ntmps45
  go_wp2_with fail
  refine (nan_any a w).mono ?_
  rintro e w1 ⟨rfl, rfl⟩
  rw [H0.out]
  go_wp2
  go_ret
  exact ⟨rfl, rfl⟩
theorem left_2 (a b : Nat) (w : World) (ha : a < 18446744073709551616) (hb : b < 18446744073709551616) (h0 : nanB a = false) (h1 : nanB b = true) :
    Calls Try.prog 45 #[.int .u64 (a : Nat), .int .u64 (b : Nat)] w fun e w' => e = .returned (.int .u64 (9221120237041090561 : Nat)) ∧ w = w' := by
  have H0 := Lib.hid h0; clear h0
  have H1 := Lib.hid h1; clear h1
  go_enter Try.func45, Try.ntmps45
  go_wp2_with fail
  refine (nan_any a w).mono ?_
  rintro e w1 ⟨rfl, rfl⟩
  rw [H0.out]
  go_wp2_with fail
  refine (nan_any b w).mono ?_
  rintro e w1 ⟨rfl, rfl⟩
  rw [H1.out]
  go_wp2
  go_ret
  exact ⟨rfl, rfl⟩
theorem left_3 (a b : Nat) (w : World) (ha : a < 18446744073709551616) (hb : b < 18446744073709551616) (h0 : nanB a = false) (h1 : nanB b = false) (h2 : infB a = true) :
    Calls Try.prog 45 #[.int .u64 (a : Nat), .int .u64 (b : Nat)] w fun e w' => e = .returned (.int .u64 (9221120237041090561 : Nat)) ∧ w = w' := by
  have H0 := Lib.hid h0; clear h0
  have H1 := Lib.hid h1; clear h1
  have H2 := Lib.hid h2; clear h2
  go_enter Try.func45, Try.ntmps45
  go_wp2_with fail
  refine (nan_any a w).mono ?_
  rintro e w1 ⟨rfl, rfl⟩
  rw [H0.out]
  go_wp2_with fail
  refine (nan_any b w).mono ?_
  rintro e w1 ⟨rfl, rfl⟩
  rw [H1.out]
  go_wp2_with fail
  refine (inf_any a w).mono ?_
  rintro e w1 ⟨rfl, rfl⟩
  rw [H2.out]
  go_wp2
  go_ret
  exact ⟨rfl, rfl⟩
theorem left_4 (a b : Nat) (w : World) (ha : a < 18446744073709551616) (hb : b < 18446744073709551616) (h0 : nanB a = false) (h1 : nanB b = false) (h2 : infB a = false) (h3 : zeroB b = true) :
    Calls Try.prog 45 #[.int .u64 (a : Nat), .int .u64 (b : Nat)] w fun e w' => e = .returned (.int .u64 (9221120237041090561 : Nat)) ∧ w = w' := by
  have hz := zero_fact b
  rw [h3] at hz
  have H0 := Lib.hid h0; clear h0
  have H1 := Lib.hid h1; clear h1
  have H2 := Lib.hid h2; clear h2
  have H3 := Lib.hid h3; clear h3
  go_enter Try.func45, Try.ntmps45
  go_wp2_with fail
  refine (nan_any a w).mono ?_
  rintro e w1 ⟨rfl, rfl⟩
  rw [H0.out]
  go_wp2_with fail
  refine (nan_any b w).mono ?_
  rintro e w1 ⟨rfl, rfl⟩
  rw [H1.out]
  go_wp2_with fail
  refine (inf_any a w).mono ?_
  rintro e w1 ⟨rfl, rfl⟩
  rw [H2.out]
  go_wp2
  go_ret
  exact ⟨rfl, rfl⟩
theorem left_5 (a b : Nat) (w : World) (ha : a < 18446744073709551616) (hb : b < 18446744073709551616) (h0 : nanB a = false) (h1 : nanB b = false) (h2 : infB a = false) (h3 : zeroB b = false) (h4 : infB b = true) :
    Calls Try.prog 45 #[.int .u64 (a : Nat), .int .u64 (b : Nat)] w fun e w' => e = .returned (.int .u64 (a : Nat)) ∧ w = w' := by
  have hz := zero_fact b
  rw [h3] at hz
  have H0 := Lib.hid h0; clear h0
  have H1 := Lib.hid h1; clear h1
  have H2 := Lib.hid h2; clear h2
  have H3 := Lib.hid h3; clear h3
  have H4 := Lib.hid h4; clear h4
  go_enter Try.func45, Try.ntmps45
  go_wp2_with fail
  refine (nan_any a w).mono ?_
  rintro e w1 ⟨rfl, rfl⟩
  rw [H0.out]
  go_wp2_with fail
  refine (nan_any b w).mono ?_
  rintro e w1 ⟨rfl, rfl⟩
  rw [H1.out]
  go_wp2_with fail
  refine (inf_any a w).mono ?_
  rintro e w1 ⟨rfl, rfl⟩
  rw [H2.out]
  go_wp2_with fail
  refine (inf_any b w).mono ?_
  rintro e w1 ⟨rfl, rfl⟩
  rw [H4.out]
  go_wp2
  go_ret
  exact ⟨rfl, rfl⟩
theorem left_6 (a b : Nat) (w : World) (ha : a < 18446744073709551616) (hb : b < 18446744073709551616) (h0 : nanB a = false) (h1 : nanB b = false) (h2 : infB a = false) (h3 : zeroB b = false) (h4 : infB b = false) :
    Calls Try.prog 45 #[.int .u64 (a : Nat), .int .u64 (b : Nat)] w fun e w' => e = .returned (.int .u64 (tellN (modR a b) : Nat)) ∧ w = w' := by
  have hz := zero_fact b
  rw [h3] at hz
  obtain ⟨r, hr⟩ : ∃ r, r = modR a b := ⟨_, rfl⟩
  rw [← hr]
  have HR := Lib.hid hr; clear hr
  have H0 := Lib.hid h0; clear h0
  have H1 := Lib.hid h1; clear h1
  have H2 := Lib.hid h2; clear h2
  have H3 := Lib.hid h3; clear h3
  have H4 := Lib.hid h4; clear h4
  go_enter Try.func45, Try.ntmps45
  go_wp2_with fail
  refine (nan_any a w).mono ?_
  rintro e w1 ⟨rfl, rfl⟩
  rw [H0.out]
  go_wp2_with fail
  refine (nan_any b w).mono ?_
  rintro e w1 ⟨rfl, rfl⟩
  rw [H1.out]
  go_wp2_with fail
  refine (inf_any a w).mono ?_
  rintro e w1 ⟨rfl, rfl⟩
  rw [H2.out]
  go_wp2_with fail
  refine (inf_any b w).mono ?_
  rintro e w1 ⟨rfl, rfl⟩
  rw [H4.out]
  go_wp2_with fail
  refine (num_any a w).mono ?_
  rintro e w1 ⟨rfl, rfl⟩
  go_wp2_with fail
  refine (num_any b w).mono ?_
  rintro e w1 ⟨rfl, rfl⟩
  go_wp2_with fail
  refine (Mod_any a b w ha hb).mono ?_
  rintro e w1 ⟨rfl, rfl⟩
  rw [← HR.out]
  go_wp2_with fail
  refine (rbits_any r w).mono ?_
  rintro e w1 ⟨rfl, rfl⟩
  go_wp2
  go_ret
  exact ⟨rfl, rfl⟩
theorem tell_const : tellN 9221120237041090561 = 9221120237041090561 := by kernel_rfl
theorem left_any (a b : Nat) (w : World) (ha : a < 18446744073709551616) (hb : b < 18446744073709551616) :
    Calls Try.prog 45 #[.int .u64 (a : Nat), .int .u64 (b : Nat)] w fun e w' => e = .returned (.int .u64 (tellN (modR a b) : Nat)) ∧ w = w' := by
  cases h1 : nanB a with
  | true => rw [show modR a b = 9221120237041090561 by unfold modR; rw [h1]; exact if_pos (by simp), tell_const]; exact left_1 a b w ha hb h1
  | false =>
    cases h2 : nanB b with
    | true => rw [show modR a b = 9221120237041090561 by unfold modR; rw [h2]; exact if_pos (by simp), tell_const]; exact left_2 a b w ha hb h1 h2
    | false =>
      cases h3 : infB a with
      | true => rw [show modR a b = 9221120237041090561 by unfold modR; rw [h3]; exact if_pos (by simp), tell_const]; exact left_3 a b w ha hb h1 h2 h3
      | false =>
        cases h4 : zeroB b with
        | true => rw [show modR a b = 9221120237041090561 by unfold modR; rw [h4]; exact if_pos (by simp), tell_const]; exact left_4 a b w ha hb h1 h2 h3 h4
        | false =>
          cases h5 : infB b with
          | true => rw [show modR a b = a by unfold modR; rw [h1, h2, h3, h4, h5]; rw [if_neg (by decide), if_pos rfl], tellN_num h1]; exact left_5 a b w ha hb h1 h2 h3 h4 h5
          | false => exact left_6 a b w ha hb h1 h2 h3 h4 h5
theorem rdo_mod_any (a b : Nat) (w : World) (ha : a < 18446744073709551616) (hb : b < 18446744073709551616) :
    Calls Try.prog 23 #[.int .i64 4, .int .u64 (a : Nat), .int .u64 (b : Nat)] w fun e w' => e = .returned (.int .u64 (tellN (modR a b) : Nat)) ∧ w = w' := by
  obtain ⟨r, hr⟩ : ∃ r, r = tellN (modR a b) := ⟨_, rfl⟩
  rw [← hr]
  have HR := Lib.hid hr; clear hr
  go_enter Try.func23, Try.ntmps23
  go_wp2_with fail
  refine (num_any a w).mono ?_
  rintro e w1 ⟨rfl, rfl⟩
  go_wp2_with fail
  refine (num_any b w).mono ?_
  rintro e w1 ⟨rfl, rfl⟩
  go_wp2_with fail
  refine (left_any a b w ha hb).mono ?_
  rintro e w1 ⟨rfl, rfl⟩
  rw [← HR.out]
  go_wp2
  go_ret
  exact ⟨rfl, rfl⟩
end
end Go.Proofs.Ytlaodfkcfclpmaa
