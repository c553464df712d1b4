/-
  What is left of one number by another one: the library's function, of every two numbers.
-/
import Derived.Test.YtlaodfkcfclpmaaFmx
namespace Go.Proofs.Ytlaodfkcfclpmaa
set_option linter.unusedVariables false
set_option linter.unusedSimpArgs false
open Go.RowKit

def zeroB (v : Nat) : Bool := decide (v % 9223372036854775808 = 0)
theorem order_neg0 {s : Bool} {m : Nat} {e : Int} (he : -1074 ≤ e) : (Ieee.Datum.order (.number s m e) (.number false 0 (-1074)) == some .eq) = decide (m = 0) ∧ (Ieee.Datum.order (.number s m e) (.number false 0 (-1074)) == some .lt) = (s && decide (m ≠ 0)) := by
  have hmin : min e (-1074) = -1074 := by omega
  have e1 : Ieee.Datum.order (.number s m e) (.number false 0 (-1074)) = some (compare (Ieee.signed s m (e - min e (-1074)).toNat) (Ieee.signed false 0 (-1074 - min e (-1074)).toNat)) := rfl
  rw [e1, hmin, show Ieee.signed false 0 ((-1074 : Int) - -1074).toNat = 0 from rfl]
  unfold Ieee.signed
  rw [Nat.shiftLeft_eq]
  have hp : 0 < 2 ^ (e - -1074).toNat := Nat.two_pow_pos _
  by_cases h0 : m = 0
  · subst h0
    rw [Nat.zero_mul]
    cases s <;> exact ⟨rfl, rfl⟩
  · have hpos : 0 < m * 2 ^ (e - -1074).toNat := Nat.mul_pos (by omega) hp
    generalize m * 2 ^ (e - -1074).toNat = x at *
    cases s
    · simp only [Bool.false_eq_true, if_false]
      rw [Int.compare_eq_gt.2 (by omega)]
      simp [h0]
    · simp only [if_true]
      rw [Int.compare_eq_lt.2 (by omega)]
      simp [h0]
theorem read_0 : FloatKind.f64.format.read 0 = .number false 0 (-1074) := rfl
theorem order_0 {v : Nat} (hv : v < 18446744073709551616) : (FloatKind.f64.format.order v 0 == some .eq) = zeroB v := by
  have e : FloatKind.f64.format.order v 0 = (FloatKind.f64.format.read v).order (FloatKind.f64.format.read 0) := rfl
  rw [e, read_0]
  cases hr : FloatKind.f64.format.read v with
  | number s m e =>
    obtain ⟨hw, h1, h2, h3, h4⟩ := word_read hv hr
    rw [(order_neg0 h2).1]
    unfold zeroB
    apply decide_eq_decide.2
    rw [hw]
    unfold wordN
    have hlt : (e + 1074).toNat * 4503599627370496 + m < 9218868437227405312 := by omega
    constructor
    · intro hm
      subst hm
      have : e = -1074 := by omega
      subst this
      cases s <;> simp
    · intro hm
      cases s
      · simp only [Bool.false_eq_true, if_false] at hm; omega
      · simp only [if_true] at hm; omega
  | infinity s =>
    have h := hr
    rw [read_eq] at h
    split at h
    · cases h
    · split at h
      · cases h
      · split at h
        · unfold zeroB; rw [decide_eq_false (by omega)]; cases s <;> rfl
        · cases h
  | nan s t =>
    have h := hr
    rw [read_eq] at h
    split at h
    · cases h
    · split at h
      · cases h
      · split at h
        · cases h
        · unfold zeroB; rw [decide_eq_false (by omega)]; rfl
theorem lt_0 {s : Bool} {X : Nat} (h : Rep X) : (FloatKind.f64.format.order (wordV s X) 0 == some .lt) = (s && decide (X ≠ 0)) := by
  have e : FloatKind.f64.format.order (wordV s X) 0 = (FloatKind.f64.format.read (wordV s X)).order (FloatKind.f64.format.read 0) := rfl
  rw [e, read_0, read_wordV s h, (order_neg0 (by omega)).2]
  congr 1
  apply decide_eq_decide.2
  have := digN_mul h
  constructor
  · intro h1 h2; have h3 := this.trans h2; exact h1 (Nat.mul_eq_zero.1 h3 |>.resolve_right (Nat.ne_of_gt (Nat.two_pow_pos _)))
  · intro h1 h2; rw [h2, Nat.zero_mul] at this; exact h1 this.symm
theorem ge_order {V W : Nat} (hV : Rep V) (hW : Rep W) : (FloatKind.f64.format.order (wordV false V) (wordV false W) == some .gt || FloatKind.f64.format.order (wordV false V) (wordV false W) == some .eq) = decide (W ≤ V) := by
  rw [order_wordV hV hW]
  by_cases h : W ≤ V
  · rw [decide_eq_true h]
    cases hc : compare V W with
    | lt => have := Nat.compare_eq_lt.1 hc; omega
    | eq => rfl
    | gt => rfl
  · rw [decide_eq_false h, Nat.compare_eq_lt.2 (by omega)]; rfl
theorem sig_order {V Y : Nat} (h0 : V ≠ 0) (h1 : Y ≠ 0) : (FloatKind.f64.format.order (frN V) (frN Y) == some .lt) = decide (sig V < sig Y) := by
  obtain ⟨a1, a2⟩ := sig_bounds h0
  obtain ⟨b1, b2⟩ := sig_bounds h1
  have r1 := read_word false 1021 (sig V) a2 (.inl a1) (by decide)
  have r2 := read_word false 1021 (sig Y) b2 (.inl b1) (by decide)
  have f1 : frN V = wordN false (1021 * 4503599627370496 + sig V) := by unfold frN wordN; rfl
  have f2 : frN Y = wordN false (1021 * 4503599627370496 + sig Y) := by unfold frN wordN; rfl
  have e : FloatKind.f64.format.order (frN V) (frN Y) = (FloatKind.f64.format.read (frN V)).order (FloatKind.f64.format.read (frN Y)) := rfl
  rw [e, f1, f2, r1, r2]
  have e1 : Ieee.Datum.order (.number false (sig V) (((1021 : Nat) : Int) - 1074)) (.number false (sig Y) (((1021 : Nat) : Int) - 1074)) = some (compare ((sig V <<< 0 : Nat) : Int) ((sig Y <<< 0 : Nat) : Int)) := rfl
  rw [e1, Nat.shiftLeft_zero, Nat.shiftLeft_zero]
  by_cases h : sig V < sig Y
  · rw [decide_eq_true h, Int.compare_eq_lt.2 (by omega)]; rfl
  · rw [decide_eq_false h]
    cases hc : compare ((sig V : Nat) : Int) ((sig Y : Nat) : Int) with
    | lt => have := Int.compare_eq_lt.1 hc; omega
    | eq => rfl
    | gt => rfl
theorem abs_word (t : Bool) {Y : Nat} (h : Rep Y) : wordV t Y % 9223372036854775808 = wordV false Y := by
  have := (wordV_lt t h).2.2
  unfold wordV wordN
  cases t <;> simp <;> omega
theorem flip_word {X : Nat} (h : Rep X) : flip (wordV true X) = wordV false X := by
  have := (wordV_lt true h).2.2
  have e1 : wordV true X = 9223372036854775808 + (zOf X * 4503599627370496 + digN X) := by unfold wordV wordN; rfl
  have e2 : wordV false X = zOf X * 4503599627370496 + digN X := by unfold wordV wordN; rfl
  unfold flip
  rw [e1, e2, if_neg (by omega)]
  omega
/-- The size of a number, of its bits. -/
def sizeD : Ieee.Datum → Nat
  | .number _ m e => m * 2 ^ (e + 1074).toNat
  | _ => 0
def sizeV : Value → Nat
  | .float _ b => sizeD (FloatKind.f64.format.read b)
  | _ => 0
theorem sizeV_word {V : Nat} (h : Rep V) : sizeV (.float .f64 (wordV false V)) = V := by
  have e : ∀ b, sizeV (.float .f64 b) = sizeD (FloatKind.f64.format.read b) := fun _ => rfl
  have e2 : ∀ m e, sizeD (.number false m e) = m * 2 ^ (e + 1074).toNat := fun _ _ => rfl
  rw [e, read_wordV false h, e2, show ((zOf V : Int) - 1074 + 1074).toNat = zOf V by omega, digN_mul h]
section
set_option maxHeartbeats 1600000
set_option maxRecDepth 100000
theorem nanf_any (w : World) : Calls Try.prog 70 #[] w fun e w' => e = .returned (.float .f64 9221120237041090561) ∧ w = w' := by
  go_enter Try.func70, Try.ntmps70
  go_wp2
  go_ret
  exact ⟨rfl, rfl⟩
theorem mod_bad1 (x y : Nat) (w : World) (hx : x < 18446744073709551616) (hy : y < 18446744073709551616) (h1 : zeroB y = true) :
    Calls Try.prog 60 #[.float .f64 x, .float .f64 y] w fun e w' => e = .returned (.float .f64 9221120237041090561) ∧ w = w' := by
  have hz := order_0 hy
  rw [h1] at hz
  clear h1
  go_enter Try.func60, Try.ntmps60
  go_wp2_with fail
  refine (nanf_any w).mono ?_
  rintro e w1 ⟨rfl, rfl⟩
  go_wp2
  go_ret
  exact ⟨rfl, rfl⟩
theorem mod_bad2 (x y : Nat) (w : World) (hx : x < 18446744073709551616) (hy : y < 18446744073709551616) (h1 : zeroB y = false) (h2 : infB x = true) :
    Calls Try.prog 60 #[.float .f64 x, .float .f64 y] w fun e w' => e = .returned (.float .f64 9221120237041090561) ∧ w = w' := by
  have hz := order_0 hy
  rw [h1] at hz
  have H2 := Lib.hid h2; clear h2
  clear h1
  go_enter Try.func60, Try.ntmps60
  go_wp2_with fail
  refine (isinf_any x w hx).mono ?_
  rintro e w1 ⟨rfl, rfl⟩
  rw [H2.out]
  go_wp2_with fail
  refine (nanf_any w).mono ?_
  rintro e w1 ⟨rfl, rfl⟩
  go_wp2
  go_ret
  exact ⟨rfl, rfl⟩
theorem mod_bad3 (x y : Nat) (w : World) (hx : x < 18446744073709551616) (hy : y < 18446744073709551616) (h1 : zeroB y = false) (h2 : infB x = false) (h3 : nanB x = true) :
    Calls Try.prog 60 #[.float .f64 x, .float .f64 y] w fun e w' => e = .returned (.float .f64 9221120237041090561) ∧ w = w' := by
  have hz := order_0 hy
  rw [h1] at hz
  have H2 := Lib.hid h2; clear h2
  have H3 := Lib.hid h3; clear h3
  clear h1
  go_enter Try.func60, Try.ntmps60
  go_wp2_with fail
  refine (isinf_any x w hx).mono ?_
  rintro e w1 ⟨rfl, rfl⟩
  rw [H2.out]
  go_wp2_with fail
  refine (isnan_any x w).mono ?_
  rintro e w1 ⟨rfl, rfl⟩
  rw [H3.out]
  go_wp2_with fail
  refine (nanf_any w).mono ?_
  rintro e w1 ⟨rfl, rfl⟩
  go_wp2
  go_ret
  exact ⟨rfl, rfl⟩
theorem mod_bad4 (x y : Nat) (w : World) (hx : x < 18446744073709551616) (hy : y < 18446744073709551616) (h1 : zeroB y = false) (h2 : infB x = false) (h3 : nanB x = false) (h4 : nanB y = true) :
    Calls Try.prog 60 #[.float .f64 x, .float .f64 y] w fun e w' => e = .returned (.float .f64 9221120237041090561) ∧ w = w' := by
  have hz := order_0 hy
  rw [h1] at hz
  have H2 := Lib.hid h2; clear h2
  have H3 := Lib.hid h3; clear h3
  have H4 := Lib.hid h4; clear h4
  clear h1
  go_enter Try.func60, Try.ntmps60
  go_wp2_with fail
  refine (isinf_any x w hx).mono ?_
  rintro e w1 ⟨rfl, rfl⟩
  rw [H2.out]
  go_wp2_with fail
  refine (isnan_any x w).mono ?_
  rintro e w1 ⟨rfl, rfl⟩
  rw [H3.out]
  go_wp2_with fail
  refine (isnan_any y w).mono ?_
  rintro e w1 ⟨rfl, rfl⟩
  rw [H4.out]
  go_wp2_with fail
  refine (nanf_any w).mono ?_
  rintro e w1 ⟨rfl, rfl⟩
  go_wp2
  go_ret
  exact ⟨rfl, rfl⟩
theorem mod_pos (t : Bool) {X Y : Nat} (hRX : Rep X) (hRY : Rep Y) (hY0 : Y ≠ 0) (w : World) :
    Calls Try.prog 60 #[.float .f64 (wordV false X), .float .f64 (wordV t Y)] w fun e w' => e = .returned (.float .f64 (wordV false (X % Y))) ∧ w = w' := by
  have hx := (wordV_lt false hRX).1
  have hy := (wordV_lt t hRY).1
  have hxn := (wordV_lt false hRX).2.1
  have hyn := (wordV_lt t hRY).2.1
  have hxi : infB (wordV false X) = false := by
    have := (wordV_lt false hRX).2.2
    unfold infB wordV wordN; rw [decide_eq_false_iff_not]; simp only [Bool.false_eq_true, if_false, if_true]; omega
  have hyv : wordV false Y ≠ 0 := by
    intro e
    have h1 := read_wordV false hRY
    rw [e] at h1
    have h2 := read_0.symm.trans h1
    injection h2 with h3 h4 h5
    have := digN_mul hRY
    rw [← h4, Nat.zero_mul] at this
    exact hY0 this.symm
  have hyz : zeroB (wordV t Y) = false := by
    unfold zeroB; rw [decide_eq_false_iff_not, abs_word t hRY]; exact hyv
  have hlt0 := lt_0 (s := false) hRX
  have habs := abs_word t hRY
  have hFy := Frexp_any hRY hY0 w
  have hrl := rep_log hRY
  clear hyv
  obtain ⟨yx, hyx⟩ : ∃ yx : Int, yx = (Y.log2 : Int) - 1073 := ⟨_, rfl⟩
  have hyx1 : -1073 ≤ yx := by omega
  have hyx2 : yx ≤ 1024 := by omega
  obtain ⟨fy, hfy⟩ : ∃ fy, fy = frN Y := ⟨_, rfl⟩
  obtain ⟨yv, hyv⟩ : ∃ yv, yv = wordV false Y := ⟨_, rfl⟩
  rw [← hyx, ← hfy, ← hyv] at hFy
  rw [← hyv] at habs
  rw [Bool.false_and] at hlt0
  obtain ⟨x, hxe⟩ : ∃ x, x = wordV false X := ⟨_, rfl⟩
  rw [← hxe] at hlt0 hx hxn hxi ⊢
  generalize wordV t Y = y at *
  have HA := Lib.hid habs; clear habs
  have HFy := Lib.hid hFy; clear hFy
  have HRX := Lib.hid hRX; clear hRX
  have HRY := Lib.hid hRY; clear hRY
  have HY0 := Lib.hid hY0; clear hY0
  have HYX := Lib.hid hyx; clear hyx hrl
  have HFR := Lib.hid hfy.symm; clear hfy
  have HYV := Lib.hid hyv.symm; clear hyv
  have HXE := Lib.hid hxe; clear hxe
  have hz := order_0 hy
  rw [hyz] at hz
  clear hyz
  have H2 := Lib.hid hxi; clear hxi
  have H3 := Lib.hid hxn; clear hxn
  have H4 := Lib.hid hyn; clear hyn
  go_enter Try.func60, Try.ntmps60
  go_wp2_with fail
  refine (isinf_any x w hx).mono ?_
  rintro e w1 ⟨rfl, rfl⟩
  rw [H2.out]
  go_wp2_with fail
  refine (isnan_any x w).mono ?_
  rintro e w1 ⟨rfl, rfl⟩
  rw [H3.out]
  go_wp2_with fail
  refine (isnan_any y w).mono ?_
  rintro e w1 ⟨rfl, rfl⟩
  rw [H4.out]
  go_wp2_with fail
  refine (abs_any y w hy).mono ?_
  rintro e w1 ⟨rfl, rfl⟩
  rw [HA.out]
  go_wp2_with fail
  refine HFy.out.mono ?_
  rintro e w1 ⟨rfl, rfl⟩
  go_wp2
  go_loopw [7] (fun r wr => ∃ V, Rep V ∧ V % Y = X % Y ∧ r = .float .f64 (wordV false V) ∧ wr = w) (fun r _ => sizeV r)
  case atStart => exact ⟨X, HRX.out, rfl, by rw [HXE.out], rfl⟩
  case round =>
    obtain ⟨V, hV, hm, rfl, rfl⟩ := hrel
    have hge := ge_order hV HRY.out
    rw [HYV.out] at hge
    have HV := Lib.hid hV; clear hV
    have HMV := Lib.hid hm; clear hm
    by_cases hle : Y ≤ V
    · rw [decide_eq_true hle] at hge
      have hV0 : V ≠ 0 := by have := HY0.out; omega
      obtain ⟨p1, p2, p3, p4, p5, p6, p7⟩ := step_ok HV.out HRY.out HY0.out hle
      have hso := sig_order hV0 HY0.out
      rw [HFR.out] at hso
      have hfre := Frexp_any HV.out hV0 wr
      have hld := Ldexp_any HRY.out HY0.out (stepK V Y) (by have := rep_log HV.out; omega) wr
      rw [HYV.out] at hld
      have hsub := sub_wordV HV.out p5 p3 p6
      have hop := fun t w => run_float_arith (P := Try.prog) w .sub t .f64 _ _ _ hsub
      have hmod := step_mod p3
      have hlog := rep_log HV.out
      have HSZ := Lib.hid (sizeV_word HV.out)
      have hTpos : 0 < Y * 2 ^ stepK V Y := Nat.mul_pos (by have := HY0.out; omega) (Nat.two_pow_pos _)
      obtain ⟨D, hD⟩ : ∃ D, D = V - Y * 2 ^ stepK V Y := ⟨_, rfl⟩
      rw [← hD] at hop hmod p6
      obtain ⟨T, hT⟩ : ∃ T, T = Y * 2 ^ stepK V Y := ⟨_, rfl⟩
      rw [← hT] at hop hld hD hTpos p3
      have hDV : D < V := by omega
      clear hT p4 p5 hsub hD
      generalize wordV false T = tw at *
      obtain ⟨dw, hdw⟩ : ∃ dw, dw = wordV false D := ⟨_, rfl⟩
      rw [← hdw] at hop
      generalize hvw : wordV false V = vw at *
      obtain ⟨fv, hfv⟩ : ∃ fv, fv = frN V := ⟨_, rfl⟩
      rw [← hfv] at hso hfre
      obtain ⟨a, ha⟩ : ∃ a : Int, a = (V.log2 : Int) - 1073 := ⟨_, rfl⟩
      rw [← ha] at hfre
      have HFE := Lib.hid hfre; clear hfre
      have HLD := Lib.hid hld; clear hld
      have HDW := Lib.hid hdw; clear hdw
      have HMD := Lib.hid hmod; clear hmod
      have HP6 := Lib.hid p6; clear p6
      have ha1 : -1073 ≤ a := by omega
      have ha2 : a ≤ 1024 := by omega
      by_cases hs : sig V < sig Y
      · rw [decide_eq_true hs] at hso
        have hk : a - 1 - yx = (stepK V Y : Int) := by have := p2 hs; have := HYX.out; unfold stepK; rw [if_pos hs]; omega
        have hkb : stepK V Y ≤ 2097 := by omega
        clear hs p2 p1 p7 ha hfv
        generalize stepK V Y = K at *
        go_wp2_with fail
        refine HFE.out.mono ?_
        rintro e w1 ⟨rfl, rfl⟩
        go_wp2_with fail
        refine HLD.out.mono ?_
        rintro e w1 ⟨rfl, rfl⟩
        go_wp2
        go_roundw
        case rel => exact ⟨D, HP6.out, HMD.out.trans HMV.out, by rw [HDW.out], by first | trivial | rfl⟩
        case measure => rw [HDW.out, sizeV_word HP6.out, HSZ.out]; exact hDV
      · rw [decide_eq_false hs] at hso
        have hk : a - yx = (stepK V Y : Int) := by have := HYX.out; unfold stepK; rw [if_neg hs]; omega
        have hkb : stepK V Y ≤ 2097 := by omega
        clear hs p2 p1 p7 ha hfv
        generalize stepK V Y = K at *
        go_wp2_with fail
        refine HFE.out.mono ?_
        rintro e w1 ⟨rfl, rfl⟩
        go_wp2_with fail
        refine HLD.out.mono ?_
        rintro e w1 ⟨rfl, rfl⟩
        go_wp2
        go_roundw
        case rel => exact ⟨D, HP6.out, HMD.out.trans HMV.out, by rw [HDW.out], by first | trivial | rfl⟩
        case measure => rw [HDW.out, sizeV_word HP6.out, HSZ.out]; exact hDV
    · rw [decide_eq_false hle] at hge
      have hVm : V = X % Y := by rw [← HMV.out, Nat.mod_eq_of_lt (by omega)]
      have HVM := Lib.hid hVm; clear hVm
      go_wp2
      go_ret
      exact ⟨by rw [← HVM.out]; rfl, rfl⟩
theorem mod_neg (t : Bool) {X Y : Nat} (hRX : Rep X) (hX0 : X ≠ 0) (hRY : Rep Y) (hY0 : Y ≠ 0) (w : World) :
    Calls Try.prog 60 #[.float .f64 (wordV true X), .float .f64 (wordV t Y)] w fun e w' => e = .returned (.float .f64 (flip (wordV false (X % Y)))) ∧ w = w' := by
  have hx := (wordV_lt true hRX).1
  have hy := (wordV_lt t hRY).1
  have hxn := (wordV_lt true hRX).2.1
  have hyn := (wordV_lt t hRY).2.1
  have hxi : infB (wordV true X) = false := by
    have := (wordV_lt true hRX).2.2
    unfold infB wordV wordN; rw [decide_eq_false_iff_not]; simp only [Bool.false_eq_true, if_false, if_true]; omega
  have hyv : wordV false Y ≠ 0 := by
    intro e
    have h1 := read_wordV false hRY
    rw [e] at h1
    have h2 := read_0.symm.trans h1
    injection h2 with h3 h4 h5
    have := digN_mul hRY
    rw [← h4, Nat.zero_mul] at this
    exact hY0 this.symm
  have hyz : zeroB (wordV t Y) = false := by
    unfold zeroB; rw [decide_eq_false_iff_not, abs_word t hRY]; exact hyv
  have hlt0 := lt_0 (s := true) hRX
  have habs := abs_word t hRY
  have hFy := Frexp_any hRY hY0 w
  have hrl := rep_log hRY
  clear hyv
  obtain ⟨yx, hyx⟩ : ∃ yx : Int, yx = (Y.log2 : Int) - 1073 := ⟨_, rfl⟩
  have hyx1 : -1073 ≤ yx := by omega
  have hyx2 : yx ≤ 1024 := by omega
  obtain ⟨fy, hfy⟩ : ∃ fy, fy = frN Y := ⟨_, rfl⟩
  obtain ⟨yv, hyv⟩ : ∃ yv, yv = wordV false Y := ⟨_, rfl⟩
  rw [← hyx, ← hfy, ← hyv] at hFy
  rw [← hyv] at habs
  rw [Bool.true_and, decide_eq_true hX0] at hlt0
  have hng : ∀ w, (Op.unary .neg (.float .f64 (wordV true X))).run Try.prog w = .ok (.float .f64 (wordV false X)) w := fun w => by
    rw [← flip_word hRX, ← negFloat_flip _ hx]; rfl
  clear hX0
  obtain ⟨xv, hxv⟩ : ∃ xv, xv = wordV false X := ⟨_, rfl⟩
  rw [← hxv] at hng
  obtain ⟨x, hxe⟩ : ∃ x, x = wordV true X := ⟨_, rfl⟩
  rw [← hxe] at hlt0 hx hxn hxi hng ⊢
  generalize wordV t Y = y at *
  have HA := Lib.hid habs; clear habs
  have HFy := Lib.hid hFy; clear hFy
  have HRX := Lib.hid hRX; clear hRX
  have HRY := Lib.hid hRY; clear hRY
  have HY0 := Lib.hid hY0; clear hY0
  have HYX := Lib.hid hyx; clear hyx hrl
  have HFR := Lib.hid hfy.symm; clear hfy
  have HYV := Lib.hid hyv.symm; clear hyv
  have HXE := Lib.hid hxv; clear hxv hxe
  have hz := order_0 hy
  rw [hyz] at hz
  clear hyz
  have H2 := Lib.hid hxi; clear hxi
  have H3 := Lib.hid hxn; clear hxn
  have H4 := Lib.hid hyn; clear hyn
  go_enter Try.func60, Try.ntmps60
  go_wp2_with fail
  refine (isinf_any x w hx).mono ?_
  rintro e w1 ⟨rfl, rfl⟩
  rw [H2.out]
  go_wp2_with fail
  refine (isnan_any x w).mono ?_
  rintro e w1 ⟨rfl, rfl⟩
  rw [H3.out]
  go_wp2_with fail
  refine (isnan_any y w).mono ?_
  rintro e w1 ⟨rfl, rfl⟩
  rw [H4.out]
  go_wp2_with fail
  refine (abs_any y w hy).mono ?_
  rintro e w1 ⟨rfl, rfl⟩
  rw [HA.out]
  go_wp2_with fail
  refine HFy.out.mono ?_
  rintro e w1 ⟨rfl, rfl⟩
  go_wp2
  go_loopw [7] (fun r wr => ∃ V, Rep V ∧ V % Y = X % Y ∧ r = .float .f64 (wordV false V) ∧ wr = w) (fun r _ => sizeV r)
  case atStart => exact ⟨X, HRX.out, rfl, by rw [HXE.out], rfl⟩
  case round =>
    obtain ⟨V, hV, hm, rfl, rfl⟩ := hrel
    have hge := ge_order hV HRY.out
    rw [HYV.out] at hge
    have HV := Lib.hid hV; clear hV
    have HMV := Lib.hid hm; clear hm
    by_cases hle : Y ≤ V
    · rw [decide_eq_true hle] at hge
      have hV0 : V ≠ 0 := by have := HY0.out; omega
      obtain ⟨p1, p2, p3, p4, p5, p6, p7⟩ := step_ok HV.out HRY.out HY0.out hle
      have hso := sig_order hV0 HY0.out
      rw [HFR.out] at hso
      have hfre := Frexp_any HV.out hV0 wr
      have hld := Ldexp_any HRY.out HY0.out (stepK V Y) (by have := rep_log HV.out; omega) wr
      rw [HYV.out] at hld
      have hsub := sub_wordV HV.out p5 p3 p6
      have hop := fun t w => run_float_arith (P := Try.prog) w .sub t .f64 _ _ _ hsub
      have hmod := step_mod p3
      have hlog := rep_log HV.out
      have HSZ := Lib.hid (sizeV_word HV.out)
      have hTpos : 0 < Y * 2 ^ stepK V Y := Nat.mul_pos (by have := HY0.out; omega) (Nat.two_pow_pos _)
      obtain ⟨D, hD⟩ : ∃ D, D = V - Y * 2 ^ stepK V Y := ⟨_, rfl⟩
      rw [← hD] at hop hmod p6
      obtain ⟨T, hT⟩ : ∃ T, T = Y * 2 ^ stepK V Y := ⟨_, rfl⟩
      rw [← hT] at hop hld hD hTpos p3
      have hDV : D < V := by omega
      clear hT p4 p5 hsub hD
      generalize wordV false T = tw at *
      obtain ⟨dw, hdw⟩ : ∃ dw, dw = wordV false D := ⟨_, rfl⟩
      rw [← hdw] at hop
      generalize hvw : wordV false V = vw at *
      obtain ⟨fv, hfv⟩ : ∃ fv, fv = frN V := ⟨_, rfl⟩
      rw [← hfv] at hso hfre
      obtain ⟨a, ha⟩ : ∃ a : Int, a = (V.log2 : Int) - 1073 := ⟨_, rfl⟩
      rw [← ha] at hfre
      have HFE := Lib.hid hfre; clear hfre
      have HLD := Lib.hid hld; clear hld
      have HDW := Lib.hid hdw; clear hdw
      have HMD := Lib.hid hmod; clear hmod
      have HP6 := Lib.hid p6; clear p6
      have ha1 : -1073 ≤ a := by omega
      have ha2 : a ≤ 1024 := by omega
      by_cases hs : sig V < sig Y
      · rw [decide_eq_true hs] at hso
        have hk : a - 1 - yx = (stepK V Y : Int) := by have := p2 hs; have := HYX.out; unfold stepK; rw [if_pos hs]; omega
        have hkb : stepK V Y ≤ 2097 := by omega
        clear hs p2 p1 p7 ha hfv
        generalize stepK V Y = K at *
        go_wp2_with fail
        refine HFE.out.mono ?_
        rintro e w1 ⟨rfl, rfl⟩
        go_wp2_with fail
        refine HLD.out.mono ?_
        rintro e w1 ⟨rfl, rfl⟩
        go_wp2
        go_roundw
        case rel => exact ⟨D, HP6.out, HMD.out.trans HMV.out, by rw [HDW.out], by first | trivial | rfl⟩
        case measure => rw [HDW.out, sizeV_word HP6.out, HSZ.out]; exact hDV
      · rw [decide_eq_false hs] at hso
        have hk : a - yx = (stepK V Y : Int) := by have := HYX.out; unfold stepK; rw [if_neg hs]; omega
        have hkb : stepK V Y ≤ 2097 := by omega
        clear hs p2 p1 p7 ha hfv
        generalize stepK V Y = K at *
        go_wp2_with fail
        refine HFE.out.mono ?_
        rintro e w1 ⟨rfl, rfl⟩
        go_wp2_with fail
        refine HLD.out.mono ?_
        rintro e w1 ⟨rfl, rfl⟩
        go_wp2
        go_roundw
        case rel => exact ⟨D, HP6.out, HMD.out.trans HMV.out, by rw [HDW.out], by first | trivial | rfl⟩
        case measure => rw [HDW.out, sizeV_word HP6.out, HSZ.out]; exact hDV
    · rw [decide_eq_false hle] at hge
      have hVm : V = X % Y := by rw [← HMV.out, Nat.mod_eq_of_lt (by omega)]
      have HVM := Lib.hid hVm; clear hVm
      have hwl := (wordV_lt false HV.out).1
      generalize hvw : wordV false V = vw at *
      have hng2 : ∀ w, (Op.unary .neg (.float .f64 vw)).run Try.prog w = .ok (.float .f64 (flip vw)) w := fun w => by rw [← negFloat_flip _ hwl]; rfl
      have HVW := Lib.hid hvw; clear hvw
      go_wp2
      go_ret
      exact ⟨by rw [← HVM.out, HVW.out]; rfl, rfl⟩
end
end Go.Proofs.Ytlaodfkcfclpmaa
