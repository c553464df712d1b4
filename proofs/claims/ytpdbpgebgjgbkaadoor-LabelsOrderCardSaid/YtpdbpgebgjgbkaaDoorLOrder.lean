/-
  LabelsOrder (P5.2): for every two lists of labels whether they are the same, and which come first, is what the plain answers say. The condition is the library's two tables': they hold what their initialisers lay, which the card ties to the program's text.
-/
import Derived.Test.YtpdbpgebgjgbkaaDoorLw
import Derived.Test.YtpdbpgebgjgbkaaDoorRc
import Derived.Test.YtpdbpgebgjgbkaaDoorCo
namespace Go.Proofs.YtpdbpgebgjgbkaaDoor
set_option linter.unusedVariables false
set_option linter.unusedSimpArgs false
open Go.ChangeMaps (open_string)
open Go.ChangeShapes Go.WideShapes Go.ChangeAt Go.RowKit

section
set_option maxHeartbeats 1600000
set_option maxRecDepth 100000
theorem lorder_walk (A B : Option Addr) (ca cb : Nat) (a b : List Lb) (w : World) (hT : Tabs w) (ha : Rd w A (lcells a)) (hb : Rd w B (lcells b)) :
    Calls Tryd.prog 5 #[.slice A a.length ca, .slice B b.length cb] w fun e w' => e = .returned (.bool true) ∧ Below w.heap.size w w' := by
  have HT := Lib.hid hT; clear hT
  have HA := Lib.hid ha; have HB := Lib.hid hb
  clear ha hb
  have hlive := live_any w HT.out
  have HL := Lib.hid hlive; clear hlive
  go_enter Tryd.func5, Tryd.ntmps5
  go_wp2_with fail
  refine HL.out.mono ?_
  rintro e w1 ⟨rfl, hb1⟩
  have HW1 := Lib.hid hb1; clear hb1
  have hf := few_any A ca a w1 (HA.out.below HW1.out)
  cases hfa : fewB a with
  | false =>
    rw [hfa] at hf
    have HF := Lib.hid hf; clear hf hfa
    go_wp2_with fail
    refine HF.out.mono ?_
    rintro e w2 ⟨rfl, hb2⟩
    have HW2 := Lib.hid (HW1.out.trans (hb2.mono HW1.out.size)); clear hb2
    go_wp2
    go_ret
    exact ⟨rfl, HW2.out⟩
  | true =>
    rw [hfa] at hf
    have HFA := Lib.hid (few_of hfa)
    have HF := Lib.hid hf; clear hf hfa
    go_wp2_with fail
    refine HF.out.mono ?_
    rintro e w2 ⟨rfl, hb2⟩
    have HW2 := Lib.hid (HW1.out.trans (hb2.mono HW1.out.size)); clear hb2
    have hf := few_any B cb b w2 (HB.out.below HW2.out)
    cases hfb : fewB b with
    | false =>
      rw [hfb] at hf
      have HF := Lib.hid hf; clear hf hfb
      go_wp2_with fail
      refine HF.out.mono ?_
      rintro e w3 ⟨rfl, hb3⟩
      have HW3 := Lib.hid (HW2.out.trans (hb3.mono HW2.out.size)); clear hb3
      go_wp2
      go_ret
      exact ⟨rfl, HW3.out⟩
    | true =>
      rw [hfb] at hf
      have HFB := Lib.hid (few_of hfb)
      have HF := Lib.hid hf; clear hf hfb
      go_wp2_with fail
      refine HF.out.mono ?_
      rintro e w3 ⟨rfl, hb3⟩
      have HW3 := Lib.hid (HW2.out.trans (hb3.mono HW2.out.size)); clear hb3
      have na : a.length ≤ 1000000 := by have := HFA.out.1; omega
      have nb : b.length ≤ 1000000 := by have := HFB.out.1; omega
      have NA := Lib.hid na; have NB := Lib.hid nb
      clear na nb
      have h1 := fun W (hw : Below w.heap.size w W) => same_any A B ca cb a b W (HA.out.below hw) (HB.out.below hw) NA.out NB.out
      have h2 := fun W (hw : Below w.heap.size w W) => rsame_any A B ca cb a b W (HA.out.below hw) (HB.out.below hw) NA.out NB.out
      have h3 := fun W (hw : Below w.heap.size w W) => compare_any A B ca cb a b W (HA.out.below hw) (HB.out.below hw) NA.out NB.out
      have h4 := fun W (hw : Below w.heap.size w W) => rcmp_any A B ca cb a b W (HA.out.below hw) (HB.out.below hw) NA.out NB.out
      have h5 := fun W (hw : Below w.heap.size w W) => copied_any A ca a W (HA.out.below hw) NA.out
      have h6 := fun A' c' W (hw : Below w.heap.size w W) (hr : Rd W A' (lcells a)) => same_any A A' ca c' a a W (HA.out.below hw) hr NA.out NA.out
      simp only [decide_true] at h6
      generalize decide (a = b) = s at h1 h2
      generalize compareP a b = x at h3 h4
      have H1 := Lib.hid h1; have H2 := Lib.hid h2; have H3 := Lib.hid h3; have H4 := Lib.hid h4; have H5 := Lib.hid h5; have H6 := Lib.hid h6
      clear h1 h2 h3 h4 h5 h6
      go_wp2_with fail
      refine (H1.out _ HW3.out).mono ?_
      rintro e w4 ⟨rfl, hd⟩
      have HW4 := Lib.hid (drawn_below HW3.out hd); clear hd
      go_wp2_with fail
      refine (H2.out _ HW4.out).mono ?_
      rintro e w5 ⟨rfl, hd⟩
      have HW5 := Lib.hid (drawn_below HW4.out hd); clear hd
      go_wp2_with fail
      refine (H3.out _ HW5.out).mono ?_
      rintro e w6 ⟨rfl, hb6⟩
      have HW6 := Lib.hid (HW5.out.trans (hb6.mono HW5.out.size)); clear hb6
      go_wp2_with fail
      refine (H4.out _ HW6.out).mono ?_
      rintro e w7 ⟨rfl, hd⟩
      have HW7 := Lib.hid (drawn_below HW6.out hd); clear hd
      go_wp2_with fail
      refine (H5.out _ HW7.out).mono ?_
      rintro e w8 ⟨A', c', rfl, hown, hb8⟩
      obtain ⟨A2, c2, e2, hr⟩ := own_rdL hown
      injection e2 with e3 _ _
      subst e3
      have HW8 := Lib.hid (HW7.out.trans (hb8.mono HW7.out.size)); clear hb8 hown
      have HR := Lib.hid hr; clear hr
      go_wp2_with fail
      refine (H6.out _ _ _ HW8.out HR.out).mono ?_
      rintro e w9 ⟨rfl, hd⟩
      have HW9 := Lib.hid (drawn_below HW8.out hd); clear hd
      go_wp2
      go_ret
      exact ⟨rfl, HW9.out⟩
end

set_option maxRecDepth 100000 in
theorem labelsOrder_contract (H : Type) (enc : TypeId × Value → H) (W : World) (base : Nat) (args : Array Value) (ds gs : List (DataW H)) (before : List MemPlace)
    (hval : ∀ (j : Nat) t v, Tryd.f5.params[j]? = some t → args[j]? = some v → Value.okWide Tryd.prog W .any base t v)
    (hW : DataW.Whole enc Tryd.prog Tryd.f5.params.toList Rows.labelsOrderSpec.vars false W args.toList ds gs before) (hL : laidMetH Tryd.prog Rows.labelsOrderRow.laid W) :
    Calls Tryd.prog 5 args W fun e W' => ∃ v, e = .returned v ∧ Rows.labelsOrderSpec.post enc Tryd.prog Tryd.f5 false true false false W args v W' := by
  have hW' := hW
  obtain ⟨p, q, hA0, hV, rfl, hfz, hnd⟩ := hW
  have hA : DataW.TrodAll enc Tryd.prog W 0 (fun _ => true) true Tryd.f5.params.toList args.toList ds p := hA0
  rw [Tryd.params5] at hA hval
  obtain ⟨v0, vs0, d0, ds0, p0, q0, hargs, rfl, rfl, h0, r0⟩ := trodAll_cons hA
  obtain ⟨v1, vs1, d1, ds1, p1, q1, rfl, rfl, rfl, h1, r1⟩ := trodAll_cons r0
  obtain ⟨rfl, rfl, rfl⟩ := trodAll_nil r1
  obtain rfl : args = #[v0, v1] := by cases args; simp_all
  obtain ⟨rfl, rfl⟩ := trodVars_none hV
  obtain ⟨A0, c0, l0, rfl, hm0, hx0, hs0⟩ := open_labels (hval 0 25 v0 rfl rfl) h0
  obtain ⟨A1, c1, l1, rfl, hm1, hx1, hs1⟩ := open_labels (hval 1 25 v1 rfl rfl) h1
  clear hA0 hA
  unfold maxLen at hm0 hs0
  unfold maxLen at hm1 hs1
  refine (lorder_walk A0 A1 c0 c1 l0 l1 W (tabs hL) hx0 hx1).mono fun e W' ⟨he, hg⟩ => ?_
  subst he
  exact ⟨_, rfl, law_end laidOut (by kernel_rfl) (by kernel_rfl) Tryd.underlying4 rfl hW' ⟨rfl, rfl, rfl⟩ hg⟩

theorem labelsOrder_met (os : Os) : laidMet Tryd.prog Rows.labelsOrderRow.laid ((laidWorld os).forCall (fun _ _ => 0) ⟨#[], #[.slice none 0 0, .slice none 0 0], []⟩).memory :=
  laid_met os _
theorem labelsOrder_reads (os : Os) {H : Type} (enc : TypeId × Value → H) : ∃ places, DataW.whole enc Tryd.prog ((laidWorld os).forCall (fun _ _ => 0) ⟨#[], #[.slice none 0 0, .slice none 0 0], []⟩).memory Tryd.f5.params.toList Rows.labelsOrderSpec.vars false (#[.slice none 0 0, .slice none 0 0] : Array Value).toList 8 = some ([.nil, .nil], [], places) :=
  ⟨[], by kernel_rfl⟩

set_option maxRecDepth 100000 in
theorem labelsOrder_lifted (os : Os) (started : os.Started) (H : Type) (enc : TypeId × Value → H) (F : Stop.Interp) :
    ReturnsInHanded {} Tryd.checked os 5 .any ((OpenSpec.ofChange Rows.labelsOrderSpec).preRow enc Tryd.prog Tryd.f5 Rows.labelsOrderRow.domain false Rows.labelsOrderRow.laid) (((OpenSpec.ofChange Rows.labelsOrderSpec).at F).post enc Tryd.prog Tryd.f5 false true false false) := by
  obtain ⟨places, hx⟩ := labelsOrder_reads os enc
  refine returnsInHanded_of_row (C := Tryd.checked) (s := OpenSpec.ofChange Rows.labelsOrderSpec) ownKn started (by kernel_rfl) Tryd.func5
    (witness_row_at (enc := enc) (C := Tryd.checked) false (laidWorld os) #[.slice none 0 0, .slice none 0 0] rfl (by kernel_rfl) (by kernel_rfl) (by kernel_rfl)
      (OpenSpec.preRow_of_cond 8 hx (by kernel_rfl) (fun k hk => by cases hk) (by kernel_rfl) (labelsOrder_met os))) ?_
  intro W base args ds gs before hval hW _ _ _ hL _ _
  exact labelsOrder_contract H enc W base args ds gs before hval hW hL

theorem labelsOrder_said : Rows.LabelsOrderSaid :=
  OpenClaim.holds_of_cond 5 Tryd.f5 rfl rfl rfl rfl rfl rfl rfl ⟨rfl, rfl, rfl, rfl, rfl⟩ rfl rfl rfl rfl rfl (by kernel_rfl) Tryd.func5 (by kernel_rfl)
    (of_decide_eq_true (by kernel_rfl)) (by unfold Func.isWrapper; first | (rw [if_pos (by decide +kernel)]; kernel_rfl) | (rw [if_neg (by decide +kernel)]; exact ⟨rfl, rfl⟩))
    (fun os started H enc _ F => by rw [OpenClaim.pre_eq_preRow]; exact labelsOrder_lifted os started H enc F)

theorem labelsOrder_plain (f : FuncId) (fn : Func) (hf : Tryd.pinned.checked.prog.funcNamed "manometer/manometerlaw05.LabelsOrder" = some f) (hfn : Tryd.pinned.checked.prog.funcs[f]? = some fn) :
    false = Tryd.pinned.checked.prog.looks [] ∧ ∀ (j : Nat) t, fn.params[j]? = some t → Tryd.pinned.checked.prog.wantsStandIn t = false := by
  obtain rfl : f = 5 := Option.some.inj ((show Tryd.prog.funcNamed "manometer/manometerlaw05.LabelsOrder" = some 5 by kernel_rfl).symm.trans hf) |>.symm
  obtain rfl : fn = Tryd.f5 := (Option.some.inj (Tryd.func5.symm.trans hfn)).symm
  refine ⟨by kernel_rfl, fun j t ht => ?_⟩
  rw [Tryd.params5] at ht
  have hm : t = 25 ∨ t = 25 := by simpa using Array.mem_of_getElem? ht
  rcases hm with rfl | rfl
  · exact (show Tryd.prog.wantsStandIn 25 = false by kernel_rfl)
  · exact (show Tryd.prog.wantsStandIn 25 = false by kernel_rfl)

theorem labelsOrder_card : Rows.LabelsOrderCardSaid :=
  Claim7.holds_tied_plain_at .later [] _ _ _ _ labelsOrder_said (fun _ h => by cases h) (by kernel_rfl) (fun _ h => by cases h) labelsOrder_row_tie rfl ⟨rfl, rfl⟩ (by kernel_rfl) rfl labelsOrder_plain (by kernel_rfl)
#print axioms labelsOrder_card
end Go.Proofs.YtpdbpgebgjgbkaaDoor
