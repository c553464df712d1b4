/-
  LabelsThree (P5.7): for every three lists of labels Compare is 0 just of the same ones, turned when they are, and an order of three. The condition is the library's two tables': they hold what their initialisers lay, which the card ties to the program's text.
-/
import Derived.Test.YtpdbpgebgjgbkaaDoorLw
import Derived.Test.YtpdbpgebgjgbkaaDoorLo
namespace Go.Proofs.YtpdbpgebgjgbkaaDoor
set_option linter.unusedVariables false
set_option linter.unusedSimpArgs false
open Go.ChangeMaps (open_string)
open Go.ChangeShapes Go.WideShapes Go.ChangeAt Go.RowKit

section
set_option maxHeartbeats 1600000
set_option maxRecDepth 100000
theorem lthree_walk (A B C : Option Addr) (ca cb cc : Nat) (a b c : List Lb) (w : World) (hT : Tabs w) (ha : Rd w A (lcells a)) (hb : Rd w B (lcells b)) (hc : Rd w C (lcells c)) :
    Calls Tryd.prog 6 #[.slice A a.length ca, .slice B b.length cb, .slice C c.length cc] w fun e w' => e = .returned (.bool true) ∧ Below w.heap.size w w' := by
  have HT := Lib.hid hT; clear hT
  have HA := Lib.hid ha; have HB := Lib.hid hb; have HC := Lib.hid hc
  clear ha hb hc
  have hlive := live_any w HT.out
  have HL := Lib.hid hlive; clear hlive
  go_enter Tryd.func6, Tryd.ntmps6
  go_wp2_with fail
  refine HL.out.mono ?_
  rintro e w1 ⟨rfl, hb1⟩
  have HW1 := Lib.hid hb1; clear hb1
  have hf := few_any A ca a w1 (HA.out.below HW1.out)
  have HL1 := Lib.hid (fun (W : World) (hb : Below w.heap.size w W) => live_any W (HT.out.below hb))
  cases hfa : fewB a with
  | false =>
    rw [hfa] at hf
    have HF := Lib.hid hf; clear hf hfa
    go_wp2_with fail
    refine HF.out.mono ?_
    rintro e w2 ⟨rfl, hb2⟩
    have HW2 := Lib.hid (HW1.out.trans (hb2.mono HW1.out.size)); clear hb2
    go_wp2_with fail
    refine (HL1.out _ HW2.out).mono ?_
    rintro e w3 ⟨rfl, hb3⟩
    have HW3 := Lib.hid (HW2.out.trans (hb3.mono HW2.out.size)); clear hb3
    go_wp2
    go_ret
    exact ⟨rfl, HW3.out⟩
  | true =>
    rw [hfa] at hf
    have HFA := Lib.hid (few_of hfa)
    have HF := Lib.hid hf; clear hf hfa
    go_wp2_with fail
    refine HF.out.mono ?_
    rintro e w2 ⟨rfl, hb2⟩
    have HW2 := Lib.hid (HW1.out.trans (hb2.mono HW1.out.size)); clear hb2
    have hf := few_any B cb b w2 (HB.out.below HW2.out)
    cases hfb : fewB b with
    | false =>
      rw [hfb] at hf
      have HF := Lib.hid hf; clear hf hfb
      go_wp2_with fail
      refine HF.out.mono ?_
      rintro e w3 ⟨rfl, hb3⟩
      have HW3 := Lib.hid (HW2.out.trans (hb3.mono HW2.out.size)); clear hb3
      go_wp2_with fail
      refine (HL1.out _ HW3.out).mono ?_
      rintro e w4 ⟨rfl, hb4⟩
      have HW4 := Lib.hid (HW3.out.trans (hb4.mono HW3.out.size)); clear hb4
      go_wp2
      go_ret
      exact ⟨rfl, HW4.out⟩
    | true =>
      rw [hfb] at hf
      have HFB := Lib.hid (few_of hfb)
      have HF := Lib.hid hf; clear hf hfb
      go_wp2_with fail
      refine HF.out.mono ?_
      rintro e w3 ⟨rfl, hb3⟩
      have HW3 := Lib.hid (HW2.out.trans (hb3.mono HW2.out.size)); clear hb3
      have hf := few_any C cc c w3 (HC.out.below HW3.out)
      cases hfc : fewB c with
      | false =>
        rw [hfc] at hf
        have HF := Lib.hid hf; clear hf hfc
        go_wp2_with fail
        refine HF.out.mono ?_
        rintro e w4 ⟨rfl, hb4⟩
        have HW4 := Lib.hid (HW3.out.trans (hb4.mono HW3.out.size)); clear hb4
        go_wp2_with fail
        refine (HL1.out _ HW4.out).mono ?_
        rintro e w5 ⟨rfl, hb5⟩
        have HW5 := Lib.hid (HW4.out.trans (hb5.mono HW4.out.size)); clear hb5
        go_wp2
        go_ret
        exact ⟨rfl, HW5.out⟩
      | true =>
        rw [hfc] at hf
        have HFC := Lib.hid (few_of hfc)
        have HF := Lib.hid hf; clear hf hfc
        go_wp2_with fail
        refine HF.out.mono ?_
        rintro e w4 ⟨rfl, hb4⟩
        have HW4 := Lib.hid (HW3.out.trans (hb4.mono HW3.out.size)); clear hb4
        have na : a.length ≤ 1000000 := by have := HFA.out.1; omega
        have nb : b.length ≤ 1000000 := by have := HFB.out.1; omega
        have nc : c.length ≤ 1000000 := by have := HFC.out.1; omega
        have NA := Lib.hid na; have NB := Lib.hid nb; have NC := Lib.hid nc
        clear na nb nc
        have hturn : compareP b a = - compareP a b := cmp_turn a b
        have h1 := fun W (hw : Below w.heap.size w W) => compare_any A B ca cb a b W (HA.out.below hw) (HB.out.below hw) NA.out NB.out
        have h2 := fun W (hw : Below w.heap.size w W) => compare_any B C cb cc b c W (HB.out.below hw) (HC.out.below hw) NB.out NC.out
        have h3 := fun W (hw : Below w.heap.size w W) => compare_any A C ca cc a c W (HA.out.below hw) (HC.out.below hw) NA.out NC.out
        have h4 := fun W (hw : Below w.heap.size w W) => compare_any B A cb ca b a W (HB.out.below hw) (HA.out.below hw) NB.out NA.out
        have h5 := fun W (hw : Below w.heap.size w W) => same_any A B ca cb a b W (HA.out.below hw) (HB.out.below hw) NA.out NB.out
        have hz : decide (a = b) = (compareP a b == 0) := by rw [Bool.beq_eq_decide_eq]; exact decide_eq_decide.2 (cmp_zero a b).symm
        have hlaw := three_law a b c
        simp only [hturn] at h4
        simp only [hz] at h5
        have x3 := cmp_three a b
        clear hturn hz
        generalize compareP a b = x at h1 h4 h5 hlaw x3
        generalize compareP b c = y at h2 hlaw
        generalize compareP a c = z at h3 hlaw
        have H1 := Lib.hid h1; have H2 := Lib.hid h2; have H3 := Lib.hid h3; have H4 := Lib.hid h4; have H5 := Lib.hid h5
        clear h1 h2 h3 h4 h5
        have hneg : IntKind.i64.wrap (-x) = -x := by rcases x3 with rfl | rfl | rfl <;> decide
        have HLAW := Lib.hid hlaw; clear hlaw
        go_wp2_with fail
        refine (H1.out _ HW4.out).mono ?_
        rintro e w5 ⟨rfl, hb5⟩
        have HW5 := Lib.hid (HW4.out.trans (hb5.mono HW4.out.size)); clear hb5
        go_wp2_with fail
        refine (H2.out _ HW5.out).mono ?_
        rintro e w6 ⟨rfl, hb6⟩
        have HW6 := Lib.hid (HW5.out.trans (hb6.mono HW5.out.size)); clear hb6
        go_wp2_with fail
        refine (H3.out _ HW6.out).mono ?_
        rintro e w7 ⟨rfl, hb7⟩
        have HW7 := Lib.hid (HW6.out.trans (hb7.mono HW6.out.size)); clear hb7
        go_wp2_with fail
        refine (H5.out _ HW7.out).mono ?_
        rintro e w8 ⟨rfl, n8, rfl⟩
        have HW8 := Lib.hid (below_drewN HW7.out n8)
        go_wp2_with fail
        refine (H4.out _ HW8.out).mono ?_
        rintro e w9 ⟨rfl, hb9⟩
        have HW9 := Lib.hid (HW8.out.trans (hb9.mono HW8.out.size)); clear hb9
        have hx4 : (-x == -x) = true := by simp
        by_cases q1 : 0 < x
        · go_wp2
          go_ret
          exact ⟨by simp, HW9.out⟩
        · by_cases q2 : 0 < y
          · go_wp2
            go_ret
            exact ⟨by simp, HW9.out⟩
          · obtain ⟨q3, q4⟩ : z ≤ 0 ∧ (z < 0 ∨ (x = 0 ∧ y = 0)) := by
              rcases HLAW.out with h | h | h
              · exact absurd h q1
              · exact absurd h q2
              · exact h
            by_cases q5 : z < 0
            · go_wp2
              go_ret
              exact ⟨by simp, HW9.out⟩
            · obtain ⟨rfl, rfl⟩ : x = 0 ∧ y = 0 := by rcases q4 with h | h; exact absurd h q5; exact h
              go_wp2
              go_ret
              exact ⟨by simp, HW9.out⟩
end

set_option maxRecDepth 100000 in
theorem labelsThree_contract (H : Type) (enc : TypeId × Value → H) (W : World) (base : Nat) (args : Array Value) (ds gs : List (DataW H)) (before : List MemPlace)
    (hval : ∀ (j : Nat) t v, Tryd.f6.params[j]? = some t → args[j]? = some v → Value.okWide Tryd.prog W .any base t v)
    (hW : DataW.Whole enc Tryd.prog Tryd.f6.params.toList Rows.labelsThreeSpec.vars false W args.toList ds gs before) (hL : laidMetH Tryd.prog Rows.labelsThreeRow.laid W) :
    Calls Tryd.prog 6 args W fun e W' => ∃ v, e = .returned v ∧ Rows.labelsThreeSpec.post enc Tryd.prog Tryd.f6 false true false false W args v W' := by
  have hW' := hW
  obtain ⟨p, q, hA0, hV, rfl, hfz, hnd⟩ := hW
  have hA : DataW.TrodAll enc Tryd.prog W 0 (fun _ => true) true Tryd.f6.params.toList args.toList ds p := hA0
  rw [Tryd.params6] at hA hval
  obtain ⟨v0, vs0, d0, ds0, p0, q0, hargs, rfl, rfl, h0, r0⟩ := trodAll_cons hA
  obtain ⟨v1, vs1, d1, ds1, p1, q1, rfl, rfl, rfl, h1, r1⟩ := trodAll_cons r0
  obtain ⟨v2, vs2, d2, ds2, p2, q2, rfl, rfl, rfl, h2, r2⟩ := trodAll_cons r1
  obtain ⟨rfl, rfl, rfl⟩ := trodAll_nil r2
  obtain rfl : args = #[v0, v1, v2] := by cases args; simp_all
  obtain ⟨rfl, rfl⟩ := trodVars_none hV
  obtain ⟨A0, c0, l0, rfl, hm0, hx0, hs0⟩ := open_labels (hval 0 25 v0 rfl rfl) h0
  obtain ⟨A1, c1, l1, rfl, hm1, hx1, hs1⟩ := open_labels (hval 1 25 v1 rfl rfl) h1
  obtain ⟨A2, c2, l2, rfl, hm2, hx2, hs2⟩ := open_labels (hval 2 25 v2 rfl rfl) h2
  clear hA0 hA
  unfold maxLen at hm0 hs0
  unfold maxLen at hm1 hs1
  unfold maxLen at hm2 hs2
  refine (lthree_walk A0 A1 A2 c0 c1 c2 l0 l1 l2 W (tabs hL) hx0 hx1 hx2).mono fun e W' ⟨he, hg⟩ => ?_
  subst he
  exact ⟨_, rfl, law_end laidOut (by kernel_rfl) (by kernel_rfl) Tryd.underlying4 rfl hW' ⟨rfl, rfl, rfl⟩ hg⟩

theorem labelsThree_met (os : Os) : laidMet Tryd.prog Rows.labelsThreeRow.laid ((laidWorld os).forCall (fun _ _ => 0) ⟨#[], #[.slice none 0 0, .slice none 0 0, .slice none 0 0], []⟩).memory :=
  laid_met os _
theorem labelsThree_reads (os : Os) {H : Type} (enc : TypeId × Value → H) : ∃ places, DataW.whole enc Tryd.prog ((laidWorld os).forCall (fun _ _ => 0) ⟨#[], #[.slice none 0 0, .slice none 0 0, .slice none 0 0], []⟩).memory Tryd.f6.params.toList Rows.labelsThreeSpec.vars false (#[.slice none 0 0, .slice none 0 0, .slice none 0 0] : Array Value).toList 8 = some ([.nil, .nil, .nil], [], places) :=
  ⟨[], by kernel_rfl⟩

set_option maxRecDepth 100000 in
theorem labelsThree_lifted (os : Os) (started : os.Started) (H : Type) (enc : TypeId × Value → H) (F : Stop.Interp) :
    ReturnsInHanded {} Tryd.checked os 6 .any ((OpenSpec.ofChange Rows.labelsThreeSpec).preRow enc Tryd.prog Tryd.f6 Rows.labelsThreeRow.domain false Rows.labelsThreeRow.laid) (((OpenSpec.ofChange Rows.labelsThreeSpec).at F).post enc Tryd.prog Tryd.f6 false true false false) := by
  obtain ⟨places, hx⟩ := labelsThree_reads os enc
  refine returnsInHanded_of_row (C := Tryd.checked) (s := OpenSpec.ofChange Rows.labelsThreeSpec) ownKn started (by kernel_rfl) Tryd.func6
    (witness_row_at (enc := enc) (C := Tryd.checked) false (laidWorld os) #[.slice none 0 0, .slice none 0 0, .slice none 0 0] rfl (by kernel_rfl) (by kernel_rfl) (by kernel_rfl)
      (OpenSpec.preRow_of_cond 8 hx (by kernel_rfl) (fun k hk => by cases hk) (by kernel_rfl) (labelsThree_met os))) ?_
  intro W base args ds gs before hval hW _ _ _ hL _ _
  exact labelsThree_contract H enc W base args ds gs before hval hW hL

theorem labelsThree_said : Rows.LabelsThreeSaid :=
  OpenClaim.holds_of_cond 6 Tryd.f6 rfl rfl rfl rfl rfl rfl rfl ⟨rfl, rfl, rfl, rfl, rfl⟩ rfl rfl rfl rfl rfl (by kernel_rfl) Tryd.func6 (by kernel_rfl)
    (of_decide_eq_true (by kernel_rfl)) (by unfold Func.isWrapper; first | (rw [if_pos (by decide +kernel)]; kernel_rfl) | (rw [if_neg (by decide +kernel)]; exact ⟨rfl, rfl⟩))
    (fun os started H enc _ F => by rw [OpenClaim.pre_eq_preRow]; exact labelsThree_lifted os started H enc F)

theorem labelsThree_plain (f : FuncId) (fn : Func) (hf : Tryd.pinned.checked.prog.funcNamed "manometer/manometerlaw05.LabelsThree" = some f) (hfn : Tryd.pinned.checked.prog.funcs[f]? = some fn) :
    false = Tryd.pinned.checked.prog.looks [] ∧ ∀ (j : Nat) t, fn.params[j]? = some t → Tryd.pinned.checked.prog.wantsStandIn t = false := by
  obtain rfl : f = 6 := Option.some.inj ((show Tryd.prog.funcNamed "manometer/manometerlaw05.LabelsThree" = some 6 by kernel_rfl).symm.trans hf) |>.symm
  obtain rfl : fn = Tryd.f6 := (Option.some.inj (Tryd.func6.symm.trans hfn)).symm
  refine ⟨by kernel_rfl, fun j t ht => ?_⟩
  rw [Tryd.params6] at ht
  have hm : t = 25 ∨ t = 25 ∨ t = 25 := by simpa using Array.mem_of_getElem? ht
  rcases hm with rfl | rfl | rfl
  · exact (show Tryd.prog.wantsStandIn 25 = false by kernel_rfl)
  · exact (show Tryd.prog.wantsStandIn 25 = false by kernel_rfl)
  · exact (show Tryd.prog.wantsStandIn 25 = false by kernel_rfl)

theorem labelsThree_card : Rows.LabelsThreeCardSaid :=
  Claim7.holds_tied_plain_at .later [] _ _ _ _ labelsThree_said (fun _ h => by cases h) (by kernel_rfl) (fun _ h => by cases h) labelsThree_row_tie rfl ⟨rfl, rfl⟩ (by kernel_rfl) rfl labelsThree_plain (by kernel_rfl)
#print axioms labelsThree_card
end Go.Proofs.YtpdbpgebgjgbkaaDoor
