/-
  BitsVarints (P1.3, P1.4): for every two numbers and every row of bytes, numbers in few bytes, written and read, are the plain answers'. No condition.
-/
import Derived.Test.YtogakabfidahbaaLive
import Derived.Test.YtogakabfidahbaaRuv
import Derived.Test.YtogakabfidahbaaLaw
namespace Go.Proofs.Ytogakabfidahbaa
set_option linter.unusedVariables false
set_option linter.unusedSimpArgs false
open Go.ChangeShapes Go.WideShapes Go.ChangeAt Go.RowKit

theorem below_drewN {B : Nat} {w w' : World} (h : Below B w w') (n : Nat) : Below B w (w'.drewN n) := ⟨h.os, h.tape, h.output, h.size, h.block⟩

section
set_option maxHeartbeats 1600000
set_option maxRecDepth 100000
theorem varints_walk (n : Nat) (s : Int) (A : Option Addr) (ca : Nat) (xs : List UInt8) (w : World) (hn : n < 18446744073709551616) (h0 : -9223372036854775808 ≤ s) (h1 : s < 9223372036854775808)
    (hx : Rd w A (xs.map Bv)) (hlx : xs.length ≤ 9223372036854775807) :
    Calls Try.prog 6 #[.int .u64 n, .int .i64 s, .slice A xs.length ca] w fun e w' => e = .returned (.bool true) ∧ Below w.heap.size w w' := by
  go_enter Try.func6, Try.ntmps6
  go_wp2_with fail
  refine (live_any _).mono ?_
  rintro e w1 ⟨rfl, hb1⟩
  have hx1 := hx.below hb1
  by_cases hbig : 1000 < (xs.length : Int)
  · go_wp2_with fail
    refine (live_any _).mono ?_
    rintro e w2 ⟨rfl, hb2⟩
    go_wp2
    go_ret
    exact ⟨rfl, hb1.trans (hb2.mono hb1.size)⟩
  · have hbig' : (xs.length : Int) ≤ 1000 := by omega
    obtain ⟨r, hr⟩ : ∃ r, uvS 0 0 xs = r := ⟨_, rfl⟩
    obtain ⟨x, k, c⟩ := r
    have HR := Lib.hid hr; clear hr
    obtain ⟨z, hz⟩ : ∃ z, (if c = 0 then zagN x else 0) = z := ⟨_, rfl⟩
    have HZ := Lib.hid hz; clear hz
    have hlp : (pu n).length ≤ 9223372036854775807 := by have := pu_len 10 n (by omega); omega
    have hlq : (pu (zigN s)).length ≤ 9223372036854775807 := by have := pu_len 10 (zigN s) (by have := zigN_lt s h0 h1; omega); omega
    go_wp2_with fail
    refine (uvarint_any A ca xs w1 hx1 hlx).mono ?_
    rintro e w2 ⟨rfl, rfl⟩
    rw [HR.out]
    simp only [uvT]
    go_wp2_with fail
    refine (ruvarint_any A ca xs w1 hx1 hlx).mono ?_
    rintro e w2 ⟨rfl, rfl⟩
    rw [HR.out]
    simp only [uvT]
    go_wp2_with fail
    refine (varint_any A ca xs w1 hx1 hlx).mono ?_
    rintro e w2 ⟨rfl, rfl⟩
    rw [HR.out]
    simp only [viT]
    rw [HZ.out]
    go_wp2_with fail
    refine (rvarint_any A ca xs w1 hx1 hlx).mono ?_
    rintro e w2 ⟨rfl, rfl⟩
    rw [HR.out]
    simp only [viT]
    rw [HZ.out]
    go_wp2_with fail
    refine (pu_any n w1 hn).mono ?_
    rintro e w2 ⟨v2, rfl, own2, hb2⟩
    obtain ⟨A2, c2, rfl, rd2, _⟩ := own_rd own2
    have hb2 := hb1.trans (hb2.mono hb1.size)
    go_wp2_with fail
    refine (rpu_any n w2 hn).mono ?_
    rintro e w3 ⟨v3, rfl, own3, hb3⟩
    obtain ⟨A3, c3, rfl, rd3, _⟩ := own_rd own3
    have rd2 := rd2.below hb3
    have hb3 := hb2.trans (hb3.mono hb2.size)
    go_wp2_with fail
    refine (equal_any A2 A3 c2 c3 (pu n) (pu n) w3 rd2 rd3 hlp hlp).mono ?_
    rintro e w4 ⟨rfl, nn, rfl⟩
    rw [decide_eq_true rfl]
    have hb4 := below_drewN hb3 nn
    generalize w3.drewN nn = w4 at hb4 ⊢
    clear own2 own3 rd2 rd3 hb2 hb3
    go_wp2_with fail
    refine (pv_any s w4 h0 h1).mono ?_
    rintro e w5 ⟨v2, rfl, own2, hb2⟩
    obtain ⟨A5, c5, rfl, rd2, _⟩ := own_rd own2
    have hb5 := hb4.trans (hb2.mono hb4.size)
    go_wp2_with fail
    refine (rpv_any s w5 h0 h1).mono ?_
    rintro e w6 ⟨v3, rfl, own3, hb3⟩
    obtain ⟨A6, c6, rfl, rd3, _⟩ := own_rd own3
    have rd2 := rd2.below hb3
    have hb6 := hb5.trans (hb3.mono hb5.size)
    go_wp2_with fail
    refine (equal_any A5 A6 c5 c6 (pu (zigN s)) (pu (zigN s)) w6 rd2 rd3 hlq hlq).mono ?_
    rintro e w7 ⟨rfl, nn, rfl⟩
    rw [decide_eq_true rfl]
    have hb7 := below_drewN hb6 nn
    clear own2 own3 rd2 rd3 hb2 hb3 hb4 hb5 hb6
    go_wp2
    go_ret
    exact ⟨rfl, hb7⟩

set_option maxRecDepth 100000 in
theorem bitsVarints_lifted (os : Os) (started : os.Started) (H : Type) (enc : TypeId × Value → H) :
    ReturnsInHanded {} Try.checked os 6 .any (Rows.bitsVarintsSpec.pre6 enc Try.prog Try.f6 Rows.bitsVarintsRow.domain false) (Rows.bitsVarintsSpec.post enc Try.prog Try.f6 false true false false) := by
  refine returnsInHanded_of_change (C := Try.checked) ownKn started (by kernel_rfl) Try.func6
    (ChangeSpec.witness6 (enc := enc) (C := Try.checked) false ⟨#[], #[.int .u64 0, .int .i64 0, .slice none 0 0], []⟩ 8 (by kernel_rfl) (by kernel_rfl) (by kernel_rfl) (by kernel_rfl)) ?_
  intro W base args ds gs before hval0 hW hcnd _
  have hval : ∀ (j : Nat) t v, Try.f6.params[j]? = some t → args[j]? = some v → Value.okWide Try.prog W .any base t v := hval0
  have hW' := hW
  obtain ⟨p, q, hA0, hV, rfl, hfz, hnd⟩ := hW
  have hA : DataW.TrodAll enc Try.prog W 0 (fun _ => true) true Try.f6.params.toList args.toList ds p := hA0
  rw [Try.params6] at hA hval
  obtain ⟨v0, vs0, d0, ds0, p0, q0, hargs, rfl, rfl, h0, r0⟩ := trodAll_cons hA
  obtain ⟨v1, vs1, d1, ds1, p1, q1, rfl, rfl, rfl, h1, r1⟩ := trodAll_cons r0
  obtain ⟨v2, vs2, d2, ds2, p2, q2, rfl, rfl, rfl, h2, r2⟩ := trodAll_cons r1
  obtain ⟨rfl, rfl, rfl⟩ := trodAll_nil r2
  obtain rfl : args = #[v0, v1, v2] := by cases args; simp_all
  obtain ⟨rfl, rfl⟩ := trodVars_none hV
  obtain ⟨a0, rfl, rfl, rfl, w0⟩ := open_int Try.underlying28 (hval 0 28 v0 rfl rfl) h0
  obtain ⟨a1, rfl, rfl, rfl, w1⟩ := open_int Try.underlying2 (hval 1 2 v1 rfl rfl) h1
  obtain ⟨A, ca, xs, rfl, hm, hx⟩ := open_bytes Try.underlying37 Try.underlying5 (by kernel_rfl) (hval 2 37 v2 rfl rfl) h2
  clear hA0 hval0 hA
  have b0 := bounds_u64 w0
  have b1 := bounds_i64 w1
  unfold maxLen at hm
  obtain ⟨n, rfl⟩ := Int.eq_ofNat_of_zero_le b0.1
  refine (varints_walk n a1 A ca xs W (by omega) (by omega) (by omega) hx (by omega)).mono fun e W' ⟨he, hg⟩ => ?_
  subst he
  exact ⟨_, rfl, law_end laidOut (by kernel_rfl) (by kernel_rfl) Try.underlying4 rfl hW' ⟨rfl, rfl, rfl⟩ hg⟩

theorem bitsVarints_holds : Rows.BitsVarintsSaid :=
  OpenClaim.holds_of_wide 6 Try.f6 rfl rfl rfl rfl rfl rfl rfl ⟨rfl, rfl, rfl, rfl, rfl⟩ rfl rfl rfl rfl rfl (by kernel_rfl) Try.func6 (by kernel_rfl)
    (of_decide_eq_true (by kernel_rfl)) (by unfold Func.isWrapper; first | (rw [if_pos (by decide +kernel)]; kernel_rfl) | (rw [if_neg (by decide +kernel)]; exact ⟨rfl, rfl⟩))
    (fun os started H enc _ => bitsVarints_lifted os started H enc)
#print axioms bitsVarints_holds
end
end Go.Proofs.Ytogakabfidahbaa
