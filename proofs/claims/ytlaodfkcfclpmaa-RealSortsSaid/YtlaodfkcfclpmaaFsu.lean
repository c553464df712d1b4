/-
  Sums and means: contracts of both sides.
-/
import Derived.Test.YtlaodfkcfclpmaaFin
import Derived.Test.YtlaodfkcfclpmaaFsp
namespace Go.Proofs.Ytlaodfkcfclpmaa
set_option linter.unusedVariables false
set_option linter.unusedSimpArgs false
open Go.RowKit

def Uv (x : Nat) : Value := .int .u64 (x : Int)
theorem Rd.u64 {w : World} {A : Option Addr} {xs : List Nat} (h : Rd w A (xs.map Uv)) {k : Nat} (hk : k < xs.length) :
    ∃ b off, A = some ⟨b, off, none⟩ ∧ w.cell? ⟨b, off + k, none⟩ = some (.int .u64 (xs[k] : Int)) :=
  h k (Uv xs[k]) (by simp [hk])
/-- How far a sum has come after k values. -/
def partP (xs : List Nat) (k : Nat) : Option Nat × Option Nat := ((xs.take k).map inO).foldl stepP (some 0, some 0)
def partR (xs : List Nat) (k : Nat) : Option Nat × Option Nat := ((xs.take k).map inO).foldl stepR (some 0, some 0)
theorem partP_succ {xs : List Nat} {k : Nat} (h : k < xs.length) : partP xs (k + 1) = stepP (partP xs k) (inO xs[k]) := by
  unfold partP; rw [List.take_succ_eq_append_getElem h, List.map_append, List.foldl_append]; rfl
theorem partR_succ {xs : List Nat} {k : Nat} (h : k < xs.length) : partR xs (k + 1) = stepR (partR xs k) (inO xs[k]) := by
  unfold partR; rw [List.take_succ_eq_append_getElem h, List.map_append, List.foldl_append]; rfl
theorem partP_all (xs : List Nat) : endO (partP xs xs.length) = sumP xs := by unfold partP sumP; rw [List.take_length]
theorem partR_all (xs : List Nat) : endO (partR xs xs.length) = sumR xs := by unfold partR sumR; rw [List.take_length]
theorem isO_in {x : Nat} (h : x < 18446744073709551616) : IsO (inO x) x := ⟨rfl, h⟩
theorem stepP_eq (p : Option Nat × Option Nat) (x : Option Nat) {b : Bool} (h : (cmpO p.1 x == some .lt) = b) :
    stepP p x = (opO .add p.1 x, if b then opO .add p.2 (opO .add (opO .sub x (opO .add p.1 x)) p.1) else opO .add p.2 (opO .add (opO .sub p.1 (opO .add p.1 x)) x)) := by subst h; rfl
theorem ord_le {m n : Nat} {i : Int} (hi : i ≤ 971) (hm : m ≤ n) : (Ieee.Datum.order (.number false m i) (.number false n 971) == some .gt) = false := by
  have hmin : min i 971 = i := by omega
  have e1 : Ieee.Datum.order (.number false m i) (.number false n 971) = some (compare (Ieee.signed false m (i - min i 971).toNat) (Ieee.signed false n (971 - min i 971).toNat)) := rfl
  rw [e1, hmin]
  have h2 : Ieee.signed false m (i - i).toNat ≤ Ieee.signed false n (971 - i).toNat := by
    have a1 : Ieee.signed false m (i - i).toNat = ((m : Nat) : Int) := by rw [Int.sub_self]; rfl
    have a2 : Ieee.signed false n (971 - i).toNat = ((n * 2 ^ (971 - i).toNat : Nat) : Int) := by rw [← Nat.shiftLeft_eq]; rfl
    rw [a1, a2]
    have : n * 1 ≤ n * 2 ^ (971 - i).toNat := Nat.mul_le_mul_left _ (Nat.two_pow_pos _)
    omega
  generalize Ieee.signed false m (i - i).toNat = a at *
  generalize Ieee.signed false n (971 - i).toNat = b at *
  cases hc : compare a b with
  | lt => rfl
  | eq => rfl
  | gt => have := Int.compare_eq_gt.1 hc; omega
theorem inf_order {v : Nat} (hv : v < 18446744073709551616) : (FloatKind.f64.format.order (v % 9223372036854775808) 9218868437227405311 == some .gt) = infB v := by
  have e : ∀ u : Nat, FloatKind.f64.format.order u 9218868437227405311 = (FloatKind.f64.format.read u).order (.number false 9007199254740991 971) := fun u => rfl
  rw [e, read_eq, Nat.mod_mod]
  unfold infB
  have hu : v % 9223372036854775808 < 9223372036854775808 := Nat.mod_lt _ (by decide)
  obtain ⟨u, hue⟩ : ∃ u, u = v % 9223372036854775808 := ⟨_, rfl⟩
  rw [← hue] at hu ⊢
  have h0 : (u / 9223372036854775808 % 2 == 1) = false := by rw [beq_eq_false_iff_ne]; omega
  rw [h0]
  split
  · rw [decide_eq_false (by omega)]
    exact ord_le (by decide) (by omega)
  · split
    · rw [decide_eq_false (by omega)]
      exact ord_le (by omega) (by omega)
    · split
      · rename_i h1 h2 h3
        rw [decide_eq_true h3]; rfl
      · rename_i h1 h2 h3
        rw [decide_eq_false h3]; rfl
theorem inf_isO {o : Option Nat} {v : Nat} (h : IsO o v) : infB v = infO o := by
  rw [h.1]
  unfold inO
  cases hn : nanB v with
  | false => rfl
  | true =>
    unfold nanB at hn
    rw [decide_eq_true_eq] at hn
    unfold infB
    rw [decide_eq_false (by omega)]; rfl
theorem endO_inf {p : Option Nat × Option Nat} (h : infO p.1 = true) : endO p = tellO p.1 := by unfold endO; rw [h]; rfl
theorem endO_fin {p : Option Nat × Option Nat} (h : infO p.1 = false) : endO p = tellO (opO .add p.1 p.2) := by unfold endO; rw [h]; rfl
theorem stepR_eq (p : Option Nat × Option Nat) (x : Option Nat) {b i : Bool} (h : (cmpO p.1 x == some .gt || cmpO p.1 x == some .eq) = b) (hi : infO (opO .add p.1 x) = i) :
    stepR p x = (opO .add p.1 x, if i then some 0 else if b then opO .add p.2 (opO .add (opO .sub p.1 (opO .add p.1 x)) x) else opO .add p.2 (opO .add (opO .sub x (opO .add p.1 x)) p.1)) := by subst h; subst hi; rfl
section
set_option maxHeartbeats 1600000
set_option maxRecDepth 100000
theorem isinf_any (v : Nat) (w : World) (hv : v < 18446744073709551616) : Calls Try.prog 52 #[.float .f64 v, .int .i64 0] w fun e w' => e = .returned (.bool (infB v)) ∧ w = w' := by
  have hi := inf_order hv
  go_enter Try.func52, Try.ntmps52
  go_wp2_with fail
  refine (abs_any v w hv).mono ?_
  rintro e w1 ⟨rfl, rfl⟩
  go_wp2
  go_ret
  exact ⟨rfl, rfl⟩
theorem sum_any (A : Option Addr) (c : Nat) (xs : List Nat) (w : World) (hx : Rd w A (xs.map Uv)) (hb : ∀ x ∈ xs, x < 18446744073709551616) (hl : xs.length ≤ 9223372036854775807) :
    Calls Try.prog 30 #[.slice A xs.length c] w fun e w' => e = .returned (.int .u64 (sumP xs : Nat)) ∧ ∃ n, w' = w.drewN n := by
  have HB := Lib.hid hb; clear hb
  go_enter Try.func30, Try.ntmps30
  go_wp2
  go_loopw [3, 4, 11] (fun s c i wr => ∃ (k n sv cv : Nat), k ≤ xs.length ∧ i = .int .i64 k ∧ s = .float .f64 sv ∧ c = .float .f64 cv ∧ IsO (partP xs k).1 sv ∧ IsO (partP xs k).2 cv ∧ wr = w.drewN n) (fun _ _ i _ => xs.length - (intOf i).toNat)
  case atStart => exact ⟨0, 0, 0, 0, by omega, rfl, rfl, rfl, ⟨rfl, by decide⟩, ⟨rfl, by decide⟩, rfl⟩
  case round =>
    obtain ⟨k, n, sv, cv, hk, rfl, rfl, rfl, hs, hc, rfl⟩ := hrel
    have HS := Lib.hid hs; clear hs
    have HC := Lib.hid hc; clear hc
    by_cases hlt : k < xs.length
    · obtain ⟨b, off, rfl, hcell⟩ := hx.u64 hlt
      have HE := Lib.hid (partP_succ hlt)
      have hxl := HB.out xs[k] (List.getElem_mem hlt)
      generalize xs[k] = x at *
      have HX := Lib.hid (isO_in hxl)
      have hsl := HS.out.2
      go_wp2_with fail
      refine (number_any x _).mono ?_
      rintro e w1 ⟨rfl, rfl⟩
      obtain ⟨t, n1, h1, ht⟩ := run_op (P := Try.prog) (w.drewN n) (op := .add) (by simp) 44 HS.out HX.out
      have HT := Lib.hid ht; clear ht
      have hcmp := cmp_isO HS.out HX.out
      go_wp2_with fail
      refine (abs_any sv _ hsl).mono ?_
      rintro e w1 ⟨rfl, rfl⟩
      go_wp2_with fail
      refine (abs_any x _ hxl).mono ?_
      rintro e w1 ⟨rfl, rfl⟩
      cases hb : cmpO (partP xs k).1 (inO x) == some .lt with
      | true =>
        have HE2 := Lib.hid (HE.out.trans (stepP_eq _ _ hb))
        obtain ⟨r2, n2, h2, q2⟩ := run_op (P := Try.prog) (w.drewN (n + n1)) (op := .sub) (by simp) 44 HX.out HT.out
        have Q2 := Lib.hid q2; clear q2
        obtain ⟨r3, n3, h3, q3⟩ := run_op (P := Try.prog) (w.drewN (n + n1 + n2)) (op := .add) (by simp) 44 Q2.out HS.out
        have Q3 := Lib.hid q3; clear q3
        obtain ⟨r4, n4, h4, q4⟩ := run_op (P := Try.prog) (w.drewN (n + n1 + n2 + n3)) (op := .add) (by simp) 44 HC.out Q3.out
        have Q4 := Lib.hid q4; clear q4
        clear HE
        go_wp2
        go_roundw
        case rel => exact ⟨k+1, _, t, r4, by omega, by go_num, rfl, rfl, by rw [HE2.out]; exact HT.out, by rw [HE2.out]; exact Q4.out, rfl⟩
        case measure => simp [intOf]; omega
      | false =>
        have HE2 := Lib.hid (HE.out.trans (stepP_eq _ _ hb))
        obtain ⟨r2, n2, h2, q2⟩ := run_op (P := Try.prog) (w.drewN (n + n1)) (op := .sub) (by simp) 44 HS.out HT.out
        have Q2 := Lib.hid q2; clear q2
        obtain ⟨r3, n3, h3, q3⟩ := run_op (P := Try.prog) (w.drewN (n + n1 + n2)) (op := .add) (by simp) 44 Q2.out HX.out
        have Q3 := Lib.hid q3; clear q3
        obtain ⟨r4, n4, h4, q4⟩ := run_op (P := Try.prog) (w.drewN (n + n1 + n2 + n3)) (op := .add) (by simp) 44 HC.out Q3.out
        have Q4 := Lib.hid q4; clear q4
        clear HE
        go_wp2
        go_roundw
        case rel => exact ⟨k+1, _, t, r4, by omega, by go_num, rfl, rfl, by rw [HE2.out]; exact HT.out, by rw [HE2.out]; exact Q4.out, rfl⟩
        case measure => simp [intOf]; omega
    · obtain rfl : k = xs.length := by omega
      have HE := Lib.hid (partP_all xs)
      have hsl := HS.out.2
      have HI := Lib.hid (inf_isO HS.out)
      go_wp2_with fail
      refine (isinf_any sv _ hsl).mono ?_
      rintro e w1 ⟨rfl, rfl⟩
      rw [HI.out]
      cases hi : infO (partP xs xs.length).1 with
      | true =>
        have HF := Lib.hid ((tell_isO HS.out).trans ((endO_inf hi).symm.trans HE.out))
        go_wp2_with fail
        refine (told_any sv _).mono ?_
        rintro e w1 ⟨rfl, rfl⟩
        rw [HF.out]
        go_wp2
        go_ret
        exact ⟨rfl, _, rfl⟩
      | false =>
        have HF := Lib.hid ((endO_fin hi).symm.trans HE.out)
        obtain ⟨t, n1, h1, ht⟩ := run_op (P := Try.prog) (w.drewN n) (op := .add) (by simp) 44 HS.out HC.out
        have HT := Lib.hid ((tell_isO ht).trans HF.out); clear ht
        go_wp2_with fail
        refine (told_any t _).mono ?_
        rintro e w1 ⟨rfl, rfl⟩
        rw [HT.out]
        go_wp2
        go_ret
        exact ⟨rfl, _, rfl⟩
theorem rsum_any (A : Option Addr) (c : Nat) (xs : List Nat) (w : World) (hx : Rd w A (xs.map Uv)) (hb : ∀ x ∈ xs, x < 18446744073709551616) (hl : xs.length ≤ 9223372036854775807) :
    Calls Try.prog 31 #[.slice A xs.length c] w fun e w' => e = .returned (.int .u64 (sumR xs : Nat)) ∧ ∃ n, w' = w.drewN n := by
  have HB := Lib.hid hb; clear hb
  go_enter Try.func31, Try.ntmps31
  go_wp2
  go_loopw [3, 4, 13] (fun s c i wr => ∃ (k n sv cv : Nat), k ≤ xs.length ∧ i = .int .i64 k ∧ s = .float .f64 sv ∧ c = .float .f64 cv ∧ IsO (partR xs k).1 sv ∧ IsO (partR xs k).2 cv ∧ wr = w.drewN n) (fun _ _ i _ => xs.length - (intOf i).toNat)
  case atStart => exact ⟨0, 0, 0, 0, by omega, rfl, rfl, rfl, ⟨rfl, by decide⟩, ⟨rfl, by decide⟩, rfl⟩
  case round =>
    obtain ⟨k, n, sv, cv, hk, rfl, rfl, rfl, hs, hc, rfl⟩ := hrel
    have HS := Lib.hid hs; clear hs
    have HC := Lib.hid hc; clear hc
    by_cases hlt : k < xs.length
    · obtain ⟨b, off, rfl, hcell⟩ := hx.u64 hlt
      have HE := Lib.hid (partR_succ hlt)
      have hxl := HB.out xs[k] (List.getElem_mem hlt)
      generalize xs[k] = x at *
      have HX := Lib.hid (isO_in hxl)
      have hsl := HS.out.2
      go_wp2_with fail
      refine (num_any x _).mono ?_
      rintro e w1 ⟨rfl, rfl⟩
      obtain ⟨t, n1, h1, ht⟩ := run_op (P := Try.prog) (w.drewN n) (op := .add) (by simp) 44 HS.out HX.out
      have HT := Lib.hid ht; clear ht
      have hcmp := cmp_isO HS.out HX.out
      go_wp2_with fail
      refine (abs_any sv _ hsl).mono ?_
      rintro e w1 ⟨rfl, rfl⟩
      go_wp2_with fail
      refine (abs_any x _ hxl).mono ?_
      rintro e w1 ⟨rfl, rfl⟩
      cases hb : cmpO (partR xs k).1 (inO x) == some .gt || cmpO (partR xs k).1 (inO x) == some .eq with
      | true =>
        obtain ⟨r2, n2, h2, q2⟩ := run_op (P := Try.prog) (w.drewN (n + n1)) (op := .sub) (by simp) 44 HS.out HT.out
        have Q2 := Lib.hid q2; clear q2
        obtain ⟨r3, n3, h3, q3⟩ := run_op (P := Try.prog) (w.drewN (n + n1 + n2)) (op := .add) (by simp) 44 Q2.out HX.out
        have Q3 := Lib.hid q3; clear q3
        obtain ⟨r4, n4, h4, q4⟩ := run_op (P := Try.prog) (w.drewN (n + n1 + n2 + n3)) (op := .add) (by simp) 44 HC.out Q3.out
        have Q4 := Lib.hid q4; clear q4
        have HIT := Lib.hid (inf_isO HT.out)
        go_wp2_with fail
        refine (inf_any t _).mono ?_
        rintro e w1 ⟨rfl, rfl⟩
        rw [HIT.out]
        cases hi : infO (opO .add (partR xs k).1 (inO x)) with
        | true =>
          have HE2 := Lib.hid (HE.out.trans (stepR_eq _ _ hb hi))
          go_wp2
          go_roundw
          case rel => exact ⟨k+1, _, t, 0, by omega, by go_num, rfl, rfl, by rw [HE2.out]; exact HT.out, by rw [HE2.out]; exact ⟨rfl, by decide⟩, rfl⟩
          case measure => simp [intOf]; omega
        | false =>
          have HE2 := Lib.hid (HE.out.trans (stepR_eq _ _ hb hi))
          go_wp2
          go_roundw
          case rel => exact ⟨k+1, _, t, r4, by omega, by go_num, rfl, rfl, by rw [HE2.out]; exact HT.out, by rw [HE2.out]; exact Q4.out, rfl⟩
          case measure => simp [intOf]; omega
      | false =>
        obtain ⟨r2, n2, h2, q2⟩ := run_op (P := Try.prog) (w.drewN (n + n1)) (op := .sub) (by simp) 44 HX.out HT.out
        have Q2 := Lib.hid q2; clear q2
        obtain ⟨r3, n3, h3, q3⟩ := run_op (P := Try.prog) (w.drewN (n + n1 + n2)) (op := .add) (by simp) 44 Q2.out HS.out
        have Q3 := Lib.hid q3; clear q3
        obtain ⟨r4, n4, h4, q4⟩ := run_op (P := Try.prog) (w.drewN (n + n1 + n2 + n3)) (op := .add) (by simp) 44 HC.out Q3.out
        have Q4 := Lib.hid q4; clear q4
        have HIT := Lib.hid (inf_isO HT.out)
        go_wp2_with fail
        refine (inf_any t _).mono ?_
        rintro e w1 ⟨rfl, rfl⟩
        rw [HIT.out]
        cases hi : infO (opO .add (partR xs k).1 (inO x)) with
        | true =>
          have HE2 := Lib.hid (HE.out.trans (stepR_eq _ _ hb hi))
          go_wp2
          go_roundw
          case rel => exact ⟨k+1, _, t, 0, by omega, by go_num, rfl, rfl, by rw [HE2.out]; exact HT.out, by rw [HE2.out]; exact ⟨rfl, by decide⟩, rfl⟩
          case measure => simp [intOf]; omega
        | false =>
          have HE2 := Lib.hid (HE.out.trans (stepR_eq _ _ hb hi))
          go_wp2
          go_roundw
          case rel => exact ⟨k+1, _, t, r4, by omega, by go_num, rfl, rfl, by rw [HE2.out]; exact HT.out, by rw [HE2.out]; exact Q4.out, rfl⟩
          case measure => simp [intOf]; omega
    · obtain rfl : k = xs.length := by omega
      have HE := Lib.hid (partR_all xs)
      have hsl := HS.out.2
      have HI := Lib.hid (inf_isO HS.out)
      go_wp2_with fail
      refine (inf_any sv _).mono ?_
      rintro e w1 ⟨rfl, rfl⟩
      rw [HI.out]
      cases hi : infO (partR xs xs.length).1 with
      | true =>
        have HF := Lib.hid ((tell_isO HS.out).trans ((endO_inf hi).symm.trans HE.out))
        go_wp2_with fail
        refine (rbits_any sv _).mono ?_
        rintro e w1 ⟨rfl, rfl⟩
        rw [HF.out]
        go_wp2
        go_ret
        exact ⟨rfl, _, rfl⟩
      | false =>
        have HF := Lib.hid ((endO_fin hi).symm.trans HE.out)
        obtain ⟨t, n1, h1, ht⟩ := run_op (P := Try.prog) (w.drewN n) (op := .add) (by simp) 44 HS.out HC.out
        have HT := Lib.hid ((tell_isO ht).trans HF.out); clear ht
        go_wp2_with fail
        refine (rbits_any t _).mono ?_
        rintro e w1 ⟨rfl, rfl⟩
        rw [HT.out]
        go_wp2
        go_ret
        exact ⟨rfl, _, rfl⟩
end
end Go.Proofs.Ytlaodfkcfclpmaa
