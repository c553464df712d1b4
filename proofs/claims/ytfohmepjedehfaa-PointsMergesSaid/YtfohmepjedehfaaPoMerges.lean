/-
  PointsMerges (P9.3): any two lists merged are the plain answers'. No condition.
-/
import Derived.Test.YtfohmepjedehfaaPv
import Derived.Test.YtfohmepjedehfaaPt8
import Derived.Test.YtfohmepjedehfaaPtb
namespace Go.Proofs.Ytfohmepjedehfaa
set_option linter.unusedVariables false
set_option linter.unusedSimpArgs false
open Go.ChangeShapes Go.WideShapes Go.ChangeAt Go.RowKit

section
set_option maxHeartbeats 1600000
set_option maxRecDepth 100000
theorem merge_bound (a b : List Pt) : (mergeP a b).1.length ≤ a.length + b.length := by
  have := merge_len a b
  unfold mergeP
  split
  · simp
  · exact this
theorem own_rd_on {w : World} {B n c : Nat} {A : Option Addr} {l : List Pt} (h : w.ownsRow B 25 3 (.slice A n c) n (pcells l)) (hn : l.length = n) : Rd w A (pcells l) := by
  subst hn
  obtain ⟨A', c', e, h1, -, -⟩ := own_rd_pt h
  injection e with e1 e2 e3
  rw [e1]; exact h1
theorem pointsMerges_walk (A B : Option Addr) (ca cb : Nat) (a b : List Pt) (w : World) (hA : Rd w A (pcells a)) (hB : Rd w B (pcells b)) (hca : a.length ≤ ca) (hcb : b.length ≤ cb) :
    Calls Try.prog 6 #[.slice A a.length ca, .slice B b.length cb] w fun e w' => e = .returned (.bool true) ∧ RowKit.Below w.heap.size w w' := by
  have HA := Lib.hid hA; have HB := Lib.hid hB
  clear hA hB
  have HLV := Lib.hid live_any
  have HFA := Lib.hid (fun w => few_any A ca a w); have HFB := Lib.hid (fun w => few_any B cb b w)
  by_cases hla : a.length ≤ 400
  · rw [decide_eq_true hla] at HFA
    by_cases hlb : b.length ≤ 400
    · rw [decide_eq_true hlb] at HFB
      have HM := Lib.hid (fun (W : World) (hb : RowKit.Below w.heap.size w W) => merge_any A B ca cb a b W (HA.out.below hb) (HB.out.below hb) hca hcb (by omega) (by omega))
      have HR := Lib.hid (fun (W : World) (hb : RowKit.Below w.heap.size w W) => rmerge_any A B ca cb a b W (HA.out.below hb) (HB.out.below hb) hca hcb (by omega) (by omega))
      have hbd := merge_bound a b
      generalize mergeP a b = R at HM HR hbd
      obtain ⟨m, n⟩ := R
      unfold MergeOut at HM HR
      simp only at HM HR hbd
      have hnn : (n == n) = true := by simp
      go_enter Try.func6, Try.ntmps6
      go_wp2_with fail
      refine (HLV.out _).mono ?_
      rintro e w1 ⟨rfl, hb1⟩
      have B1 := Lib.hid hb1; clear hb1
      go_wp2_with fail
      refine (HFA.out _).mono ?_
      rintro e w2 ⟨rfl, rfl⟩
      go_wp2_with fail
      refine (HFB.out _).mono ?_
      rintro e w3 ⟨rfl, rfl⟩
      go_wp2_with fail
      refine (HM.out _ B1.out).mono ?_
      rintro e w4 ⟨A4, c4, rfl, -, ho4, hb4⟩
      have O4 := Lib.hid ho4
      have B4 := Lib.hid (B1.out.trans (hb4.mono B1.out.size)); clear hb4 ho4
      go_wp2_with fail
      refine (HR.out _ B4.out).mono ?_
      rintro e w5 ⟨A5, c5, rfl, -, ho5, hb5⟩
      have O5 := Lib.hid ho5; have P4 := Lib.hid (own_below_pt O4.out hb5)
      have B5 := Lib.hid (B4.out.trans (hb5.mono B4.out.size)); clear hb5 ho5
      go_wp2_with fail
      refine (same_any A4 A5 c4 c5 m m _ (own_rd_on P4.out rfl) (own_rd_on O5.out rfl) (by omega) (by omega)).mono ?_
      rintro e w6 ⟨rfl, hb6⟩
      rw [decide_eq_true rfl]
      have B6 := Lib.hid (B5.out.trans (hb6.mono B5.out.size)); clear hb6
      go_wp2
      go_ret
      exact ⟨rfl, B6.out⟩
    · rw [decide_eq_false hlb] at HFB
      go_enter Try.func6, Try.ntmps6
      go_wp2_with fail
      refine (HLV.out _).mono ?_
      rintro e w1 ⟨rfl, hb1⟩
      have B1 := Lib.hid hb1; clear hb1
      go_wp2_with fail
      refine (HFA.out _).mono ?_
      rintro e w2 ⟨rfl, rfl⟩
      go_wp2_with fail
      refine (HFB.out _).mono ?_
      rintro e w3 ⟨rfl, rfl⟩
      go_wp2_with fail
      refine (HLV.out _).mono ?_
      rintro e wz ⟨rfl, hbz⟩
      have BZ := Lib.hid (B1.out.trans (hbz.mono B1.out.size)); clear hbz
      go_wp2
      go_ret
      exact ⟨rfl, BZ.out⟩
  · rw [decide_eq_false hla] at HFA
    go_enter Try.func6, Try.ntmps6
    go_wp2_with fail
    refine (HLV.out _).mono ?_
    rintro e w1 ⟨rfl, hb1⟩
    have B1 := Lib.hid hb1; clear hb1
    go_wp2_with fail
    refine (HFA.out _).mono ?_
    rintro e w2 ⟨rfl, rfl⟩
    go_wp2_with fail
    refine (HLV.out _).mono ?_
    rintro e wz ⟨rfl, hbz⟩
    have BZ := Lib.hid (B1.out.trans (hbz.mono B1.out.size)); clear hbz
    go_wp2
    go_ret
    exact ⟨rfl, BZ.out⟩
end

set_option maxRecDepth 100000 in
theorem pointsMerges_lifted (os : Os) (started : os.Started) (H : Type) (enc : TypeId × Value → H) :
    ReturnsInHanded {} Try.checked os 6 .any (Rows.pointsMergesSpec.pre6 enc Try.prog Try.f6 Rows.pointsMergesRow.domain false) (Rows.pointsMergesSpec.post enc Try.prog Try.f6 false true false false) := by
  refine returnsInHanded_of_change (C := Try.checked) ownKn started (by kernel_rfl) Try.func6
    (ChangeSpec.witness6 (enc := enc) (C := Try.checked) false ⟨#[], #[.slice none 0 0, .slice none 0 0], []⟩ 8 (by kernel_rfl) (by kernel_rfl) (by kernel_rfl) (by kernel_rfl)) ?_
  intro W base args ds gs before hval0 hW hcnd _
  have hval : ∀ (j : Nat) t v, Try.f6.params[j]? = some t → args[j]? = some v → Value.okWide Try.prog W .any base t v := hval0
  have hW' := hW
  obtain ⟨p, q, hA0, hV, rfl, hfz, hnd⟩ := hW
  have hA : DataW.TrodAll enc Try.prog W 0 (fun _ => true) true Try.f6.params.toList args.toList ds p := hA0
  rw [Try.params6] at hA hval
  obtain ⟨v0, vs0, d0, ds0, p0, q0, hargs, rfl, rfl, h0, r0⟩ := trodAll_cons hA
  obtain ⟨v1, vs1, d1, ds1, p1, q1, rfl, rfl, rfl, h1, r1⟩ := trodAll_cons r0
  obtain ⟨rfl, rfl, rfl⟩ := trodAll_nil r1
  obtain rfl : args = #[v0, v1] := by cases args; simp_all
  obtain ⟨rfl, rfl⟩ := trodVars_none hV
  obtain ⟨A0, c0, l0, rfl, hm0, hx0⟩ := open_points (hval 0 22 v0 rfl rfl) h0
  obtain ⟨A1, c1, l1, rfl, hm1, hx1⟩ := open_points (hval 1 22 v1 rfl rfl) h1
  clear hA0 hval0 hA
  unfold maxLen at hm0
  unfold maxLen at hm1
  refine (pointsMerges_walk A0 A1 c0 c1 l0 l1 W hx0 hx1 hm0.1 hm1.1).mono fun e W' ⟨he, hg⟩ => ?_
  subst he
  exact ⟨_, rfl, law_end laidOut (by kernel_rfl) (by kernel_rfl) Try.underlying4 rfl hW' ⟨rfl, rfl, rfl⟩ hg⟩

theorem pointsMerges_holds : Rows.PointsMergesSaid :=
  OpenClaim.holds_of_wide 6 Try.f6 rfl rfl rfl rfl rfl rfl rfl ⟨rfl, rfl, rfl, rfl, rfl⟩ rfl rfl rfl rfl rfl (by kernel_rfl) Try.func6 (by kernel_rfl)
    (of_decide_eq_true (by kernel_rfl)) (by unfold Func.isWrapper; first | (rw [if_pos (by decide +kernel)]; kernel_rfl) | (rw [if_neg (by decide +kernel)]; exact ⟨rfl, rfl⟩))
    (fun os started H enc _ => pointsMerges_lifted os started H enc)
#print axioms pointsMerges_holds

end Go.Proofs.Ytfohmepjedehfaa
