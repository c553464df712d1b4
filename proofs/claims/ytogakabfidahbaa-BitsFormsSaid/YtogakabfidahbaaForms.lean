/-
  BitsForms (P1.5, P1.6): for every numbers and every bytes behind: a number's bytes are taken, whatever stands behind them, and cut off nowhere; bytes that are taken are those of the number; lesser numbers do not have more bytes. No condition.
-/
import Derived.Test.YtogakabfidahbaaVarints
import Derived.Test.YtogakabfidahbaaUvLaws
import Derived.Test.YtogakabfidahbaaJoin
import Derived.Deep.DeepCutAuto
import Derived.Deep.CutRange
import Derived.Deep.RegionHeld3
namespace Go.Proofs.Ytogakabfidahbaa
set_option linter.unusedVariables false
set_option linter.unusedSimpArgs false
open Go.ChangeShapes Go.WideShapes Go.ChangeAt Go.RowKit

section
set_option maxHeartbeats 1600000
set_option maxRecDepth 100000
theorem forms_walk (n o : Nat) (s : Int) (A : Option Addr) (ca : Nat) (xs : List UInt8) (w : World) (hn : n < 18446744073709551616) (ho : o < 18446744073709551616) (h0 : -9223372036854775808 ≤ s) (h1 : s < 9223372036854775808)
    (hx : Rd w A (xs.map Bv)) (hlx : xs.length ≤ ca) (hca : ca ≤ 9223372036854775807) :
    Calls Try.prog 7 #[.int .u64 n, .int .u64 o, .int .i64 s, .slice A xs.length ca] w fun e w' => e = .returned (.bool true) ∧ Below w.heap.size w w' := by
  go_enter Try.func7, Try.ntmps7
  go_wp2_with fail
  refine (live_any _).mono ?_
  rintro e w1 ⟨rfl, hb1⟩
  have hx1 := hx.below hb1
  by_cases hbig : 1000 < (xs.length : Int)
  · go_wp2_with fail
    refine (live_any _).mono ?_
    rintro e w2 ⟨rfl, hb2⟩
    go_wp2
    go_ret
    exact ⟨rfl, hb1.trans (hb2.mono hb1.size)⟩
  · have hbig' : (xs.length : Int) ≤ 1000 := by omega
    have hzlt := zigN_lt s h0 h1
    have hlp := pu_len 10 n (by omega)
    have hlq := pu_len 10 (zigN s) (by omega)
    have e1 := uvS_pu n 0 0 xs (Or.inl rfl) (by omega) (by omega)
    have e2 := uvS_pu (zigN s) 0 0 xs (Or.inl rfl) (by omega) (by omega)
    have E1 := Lib.hid e1; clear e1
    have E2 := Lib.hid e2; clear e2
    go_wp2_with fail
    refine (pu_any n w1 hn).mono ?_
    rintro e w2 ⟨v2, rfl, own2, hb2⟩
    obtain ⟨A2, c2, rfl, rd2, _, hc2, hc2'⟩ := own_rd own2
    unfold maxLen at hc2'
    have hx2 := hx1.below hb2
    have hb2 := hb1.trans (hb2.mono hb1.size)
    go_wp2_with fail
    refine (pv_any s w2 h0 h1).mono ?_
    rintro e w3 ⟨v3, rfl, own3, hb3⟩
    obtain ⟨A3, c3, rfl, rd3, _⟩ := own_rd own3
    have rd2 := rd2.below hb3
    have hx3 := hx2.below hb3
    have hb3 := hb2.trans (hb3.mono hb2.size)
    clear own2 own3 hx1 hx2 hb1 hb2
    go_wp2_with fail
    refine (join_two w3 A2 A c2 ca (pu n) xs rd2 hx3 (by omega)).mono ?_
    rintro e w4 ⟨A4, c4, rfl, rd4, hb4⟩
    obtain ⟨zs, hz⟩ : ∃ zs, zs = pu n ++ xs := ⟨_, rfl⟩
    have hzl : zs.length ≤ 9223372036854775807 := by rw [hz, List.length_append]; omega
    rw [← hz] at rd4 ⊢
    have HZ := Lib.hid hz; clear hz
    have rd2 := rd2.below hb4
    have rd3 := rd3.below hb4
    have hx4 := hx3.below hb4
    have hb4 := hb3.trans (hb4.mono hb3.size)
    clear hx3 hb3
    go_wp2_with fail
    refine (uvarint_any A4 c4 zs w4 rd4 hzl).mono ?_
    rintro e w5 ⟨rfl, rfl⟩
    rw [HZ.out, E1.out, uvT_ok, Nat.mul_zero, Nat.pow_zero, Nat.mul_one, Nat.zero_add, Nat.zero_add]
    clear rd4
    go_wp2_with fail
    refine (join_two w4 A3 A c3 ca (pu (zigN s)) xs rd3 hx4 (by omega)).mono ?_
    rintro e w5 ⟨A5, c5, rfl, rd5, hb5⟩
    obtain ⟨ys, hy⟩ : ∃ ys, ys = pu (zigN s) ++ xs := ⟨_, rfl⟩
    have hyl : ys.length ≤ 9223372036854775807 := by rw [hy, List.length_append]; omega
    rw [← hy] at rd5 ⊢
    have HY := Lib.hid hy; clear hy
    have rd2 := rd2.below hb5
    have hx5 := hx4.below hb5
    have hb5 := hb4.trans (hb5.mono hb4.size)
    clear hx4 hb4 rd3
    go_wp2_with fail
    refine (varint_any A5 c5 ys w5 rd5 hyl).mono ?_
    rintro e w6 ⟨rfl, rfl⟩
    rw [HY.out, E2.out, viT_ok, Nat.mul_zero, Nat.pow_zero, Nat.mul_one, Nat.zero_add, Nat.zero_add, zag_zig]
    clear rd5
    go_wp2_with fail
    go_loop [82] (fun i => ∃ k : Nat, k ≤ (pu n).length ∧ i = .int .i64 k) (fun i => (pu n).length - (intOf i).toNat)
    case atStart => exact ⟨0, by omega, rfl⟩
    case round =>
      obtain ⟨k, hk, rfl⟩ := hrel
      by_cases hlt : k < (pu n).length
      · have hcut := uvS_cut n 0 0 k hlt (by omega)
        have hkt : ((pu n).take k).length = k := by rw [List.length_take]; omega
        have HC := Lib.hid hcut; clear hcut
        have HK := Lib.hid hkt; clear hkt
        go_wp2_with fail
        refine (uvarint_len A2 c2 k ((pu n).take k) w5 HK.out (rd2.bytes_take k) (by rw [HK.out]; omega)).mono ?_
        rintro e w6 ⟨rfl, rfl⟩
        rw [HC.out]
        simp only [uvT]
        go_wp2
        go_round
        case rel => exact ⟨k + 1, by omega, by go_num⟩
        case measure => simp [intOf]; omega
      · go_wp2_with fail
        refine (uvarint_any A ca xs w5 hx5 (by omega)).mono ?_
        rintro e w6 ⟨rfl, rfl⟩
        have hform := uvS_form_of xs 0 0
        have hzlt := uvS_lt (k := 0) (n := 0) (l := xs) (by omega) (by decide)
        generalize uvS 0 0 xs = r at hform hzlt ⊢
        obtain ⟨z, m, c⟩ := r
        simp only [uvT] at hzlt ⊢
        by_cases hc : c = 0
        · obtain ⟨y, hy1, hm0, hm1, hpy0, _⟩ := hform z m (by omega) (by rw [hc])
          have hyz : y = z := by simp at hy1; exact hy1.symm
          subst hyz
          clear hy1 hform
          have hcc : ((c : Int) == 0) = true := by simp [hc]
          have hm1' : (m : Int) ≤ xs.length := by omega
          have hm0' : 1 ≤ (m : Int) := by omega
          have hmc : (m : Int) ≤ (ca : Int) := by omega
          have hmn : m ≤ ca := by omega
          have hmz : (0 : Int) ≤ (m : Int) := by omega
          have hd1 : decide ((m : Int) < 1) = false := by rw [decide_eq_false_iff_not]; omega
          have hd2 : decide ((xs.length : Int) < (m : Int)) = false := by rw [decide_eq_false_iff_not]; omega
          have hd3 : decide (xs.length < m) = false := by rw [decide_eq_false_iff_not]; omega
          have hpy : pu y = xs.take m := by simpa using hpy0
          clear hpy0
          have hml : (xs.take m).length = m := by rw [List.length_take]; omega
          have hx5t := hx5.bytes_take m
          have HML := Lib.hid (show (xs.take m).length ≤ 9223372036854775807 by omega)
          have HPL := Lib.hid (show (pu y).length ≤ 9223372036854775807 by rw [hpy]; omega)
          have HM := Lib.hid hml; clear hml
          have HPY := Lib.hid hpy; clear hpy
          have HCC := Lib.hid hc; clear hc
          go_wp2_with fail
          go_upto_region 16 with (fail)
          go_cut [122] (fun s122 wx => s122 = .bool false ∧ Below w5.heap.size w5 wx)
          case first =>
            go_region_held3 (fun _ => True) (exact trivial) (first
              | (go_at_call 31; clear hd1 hd2 hd3 hcc; go_must (refine (pu_any y _ hzlt).mono ?_; rintro e w6 ⟨v6, rfl, own6, hb6⟩; obtain ⟨A6, c6, rfl, rd6, _⟩ := own_rd own6; have hx6 : Rd w6 A ((xs.take m).map Bv) := Rd.below (by exact hx5t) hb6))
              | (go_at_call 17; go_must (refine (equal_yes _ _ _ _ _ _ (pu y) (xs.take m) _ HPY.out rfl HM.out (by exact rd6) (by exact hx6) HPL.out).mono ?_; rintro e w7 ⟨rfl, nn, rfl⟩)))
            all_goals
              go_wp2_with fail
              go_meet
              exact ⟨rfl, below_drewN (show Below w5.heap.size w5 w6 from ⟨hb6.os, hb6.tape, hb6.output, hb6.size, hb6.block⟩) nn⟩
          case rest =>
            obtain ⟨rfl, hbx⟩ := hcut
            have hbx := hb5.trans (hbx.mono hb5.size)
            by_cases hno : n < o
            · have hno' : (n : Int) < (o : Int) := by omega
              go_wp2
              go_ret
              exact ⟨rfl, hbx⟩
            · have hno' : decide ((n : Int) < (o : Int)) = false := by rw [decide_eq_false_iff_not]; omega
              have hno3 : decide (n < o) = false := by rw [decide_eq_false_iff_not]; omega
              have hno2 : (o : Int) ≤ (n : Int) := by omega
              have hpm := pu_mono n o (by omega)
              have hpm' : ((pu o).length : Int) ≤ ((pu n).length : Int) := by omega
              go_wp2_with fail
              refine (pu_any o _ ho).mono ?_
              rintro e w8 ⟨v8, rfl, own8, hb8⟩
              obtain ⟨A8, c8, rfl, _⟩ := own_rd own8
              have hbz := hbx.trans (hb8.mono hbx.size)
              go_wp2
              go_ret
              exact ⟨rfl, hbz⟩
        · have hcc : ((c : Int) == 0) = false := by rw [beq_eq_false_iff_ne]; omega
          clear hform hc
          go_wp2_with fail
          go_upto_region 16 with (fail)
          go_cut [122] (fun s122 wx => s122 = .bool false ∧ Below w5.heap.size w5 wx)
          case first =>
            go_quiet (fail)
            go_wp2_with fail
            go_meet
            exact ⟨rfl, below_drewN (Below.refl _ _) _⟩
          case rest =>
            obtain ⟨rfl, hbx⟩ := hcut
            have hbx := hb5.trans (hbx.mono hb5.size)
            by_cases hno : n < o
            · have hno' : (n : Int) < (o : Int) := by omega
              go_wp2
              go_ret
              exact ⟨rfl, hbx⟩
            · have hno' : decide ((n : Int) < (o : Int)) = false := by rw [decide_eq_false_iff_not]; omega
              have hno3 : decide (n < o) = false := by rw [decide_eq_false_iff_not]; omega
              have hno2 : (o : Int) ≤ (n : Int) := by omega
              have hpm := pu_mono n o (by omega)
              have hpm' : ((pu o).length : Int) ≤ ((pu n).length : Int) := by omega
              go_wp2_with fail
              refine (pu_any o _ ho).mono ?_
              rintro e w8 ⟨v8, rfl, own8, hb8⟩
              obtain ⟨A8, c8, rfl, _⟩ := own_rd own8
              have hbz := hbx.trans (hb8.mono hbx.size)
              go_wp2
              go_ret
              exact ⟨rfl, hbz⟩

set_option maxRecDepth 100000 in
theorem bitsForms_lifted (os : Os) (started : os.Started) (H : Type) (enc : TypeId × Value → H) :
    ReturnsInHanded {} Try.checked os 7 .any (Rows.bitsFormsSpec.pre6 enc Try.prog Try.f7 Rows.bitsFormsRow.domain false) (Rows.bitsFormsSpec.post enc Try.prog Try.f7 false true false false) := by
  refine returnsInHanded_of_change (C := Try.checked) ownKn started (by kernel_rfl) Try.func7
    (ChangeSpec.witness6 (enc := enc) (C := Try.checked) false ⟨#[], #[.int .u64 0, .int .u64 0, .int .i64 0, .slice none 0 0], []⟩ 8 (by kernel_rfl) (by kernel_rfl) (by kernel_rfl) (by kernel_rfl)) ?_
  intro W base args ds gs before hval0 hW hcnd _
  have hval : ∀ (j : Nat) t v, Try.f7.params[j]? = some t → args[j]? = some v → Value.okWide Try.prog W .any base t v := hval0
  have hW' := hW
  obtain ⟨p, q, hA0, hV, rfl, hfz, hnd⟩ := hW
  have hA : DataW.TrodAll enc Try.prog W 0 (fun _ => true) true Try.f7.params.toList args.toList ds p := hA0
  rw [Try.params7] at hA hval
  obtain ⟨v0, vs0, d0, ds0, p0, q0, hargs, rfl, rfl, h0, r0⟩ := trodAll_cons hA
  obtain ⟨v1, vs1, d1, ds1, p1, q1, rfl, rfl, rfl, h1, r1⟩ := trodAll_cons r0
  obtain ⟨v2, vs2, d2, ds2, p2, q2, rfl, rfl, rfl, h2, r2⟩ := trodAll_cons r1
  obtain ⟨v3, vs3, d3, ds3, p3, q3, rfl, rfl, rfl, h3, r3⟩ := trodAll_cons r2
  obtain ⟨rfl, rfl, rfl⟩ := trodAll_nil r3
  obtain rfl : args = #[v0, v1, v2, v3] := by cases args; simp_all
  obtain ⟨rfl, rfl⟩ := trodVars_none hV
  obtain ⟨z0, rfl, rfl, rfl, w0⟩ := open_int Try.underlying28 (hval 0 28 v0 rfl rfl) h0
  obtain ⟨z1, rfl, rfl, rfl, w1⟩ := open_int Try.underlying28 (hval 1 28 v1 rfl rfl) h1
  obtain ⟨a2, rfl, rfl, rfl, w2⟩ := open_int Try.underlying2 (hval 2 2 v2 rfl rfl) h2
  obtain ⟨A3, c3, xs3, rfl, hm3, hx3⟩ := open_bytes Try.underlying37 Try.underlying5 (by kernel_rfl) (hval 3 37 v3 rfl rfl) h3
  clear hA0 hval0 hA
  have b0 := bounds_u64 w0
  obtain ⟨n0, rfl⟩ := Int.eq_ofNat_of_zero_le b0.1
  have b1 := bounds_u64 w1
  obtain ⟨n1, rfl⟩ := Int.eq_ofNat_of_zero_le b1.1
  have b2 := bounds_i64 w2
  unfold maxLen at hm3
  refine (forms_walk n0 n1 a2 A3 c3 xs3 W (by omega) (by omega) (by omega) (by omega) hx3 hm3.1 (by omega)).mono fun e W' ⟨he, hg⟩ => ?_
  subst he
  exact ⟨_, rfl, law_end laidOut (by kernel_rfl) (by kernel_rfl) Try.underlying4 rfl hW' ⟨rfl, rfl, rfl⟩ hg⟩

theorem bitsForms_holds : Rows.BitsFormsSaid :=
  OpenClaim.holds_of_wide 7 Try.f7 rfl rfl rfl rfl rfl rfl rfl ⟨rfl, rfl, rfl, rfl, rfl⟩ rfl rfl rfl rfl rfl (by kernel_rfl) Try.func7 (by kernel_rfl)
    (of_decide_eq_true (by kernel_rfl)) (by unfold Func.isWrapper; first | (rw [if_pos (by decide +kernel)]; kernel_rfl) | (rw [if_neg (by decide +kernel)]; exact ⟨rfl, rfl⟩))
    (fun os started H enc _ => bitsForms_lifted os started H enc)
#print axioms bitsForms_holds
end
end Go.Proofs.Ytogakabfidahbaa
