/-
  LabelsHashes (P5.5): the sum of any labels is what the plain answers say. The condition is the library's two tables': they hold what their initialisers lay, which the card ties to the program's text.
-/
import Derived.Test.YtmicbgcdnkomjaaGreatDoorLw
import Derived.Test.YtmicbgcdnkomjaaGreatDoorHb
namespace Go.Proofs.YtmicbgcdnkomjaaGreatDoor
set_option linter.unusedVariables false
set_option linter.unusedSimpArgs false
open Go.ChangeShapes Go.WideShapes Go.ChangeAt Go.RowKit

section
set_option maxHeartbeats 3200000
set_option maxRecDepth 100000
theorem lhashes_walk (A : Option Addr) (ca : Nat) (l : List Lb) (w : World) (hT : Tabs w) (ha : Rd w A (lcells l)) :
    Calls Tryz.prog 5 #[.slice A l.length ca] w fun e w' => e = .returned (.bool true) ∧ Below w.heap.size w w' := by
  have HT := Lib.hid hT; clear hT
  have HA := Lib.hid ha; clear ha
  have hlive := live_any w HT.out
  have HL := Lib.hid hlive; clear hlive
  go_enter Tryz.func5, Tryz.ntmps5
  go_wp2_with fail
  refine HL.out.mono ?_
  rintro e w1 ⟨rfl, hb1⟩
  have HW1 := Lib.hid hb1; clear hb1
  have hf := few_any A ca l w1 (HA.out.below HW1.out)
  have HL1 := Lib.hid (fun (W : World) (hb : Below w.heap.size w W) => live_any W (HT.out.below hb))
  cases hfa : fewB l with
  | false =>
    rw [hfa] at hf
    have HF := Lib.hid hf; clear hf hfa
    go_wp2_with fail
    refine (HF.out).mono ?_
    rintro e w2 ⟨rfl, hb2⟩
    have HW2 := Lib.hid (HW1.out.trans (hb2.mono HW1.out.size)); clear hb2
    go_wp2_with fail
    refine (HL1.out _ HW2.out).mono ?_
    rintro e w3 ⟨rfl, hb3⟩
    have HW3 := Lib.hid (HW2.out.trans (hb3.mono HW2.out.size)); clear hb3
    go_wp2
    go_ret
    exact ⟨rfl, HW3.out⟩
  | true =>
    rw [hfa] at hf
    have HFA := Lib.hid (few_few hfa)
    have HF := Lib.hid hf; clear hf hfa
    have hha := fun W (hw : Below w.heap.size w W) => hash_any A ca l W (HT.out.below hw) (HA.out.below hw) HFA.out
    have hrh := fun W (hw : Below w.heap.size w W) => rhash_any A ca l W (HA.out.below hw) HFA.out
    generalize hashP l = H at hha hrh
    obtain ⟨a, b⟩ := H
    simp only at hha hrh
    have HHA := Lib.hid hha; have HRH := Lib.hid hrh; clear hha hrh
    go_wp2_with fail
    refine (HF.out).mono ?_
    rintro e w2 ⟨rfl, hb2⟩
    have HW2 := Lib.hid (HW1.out.trans (hb2.mono HW1.out.size)); clear hb2 HL1
    go_wp2_with fail
    refine (HHA.out _ HW2.out).mono ?_
    rintro e w3 ⟨rfl, hb3⟩
    have HW3 := Lib.hid (HW2.out.trans (hb3.mono HW2.out.size)); clear hb3
    go_wp2_with fail
    refine (HRH.out _ HW3.out).mono ?_
    rintro e w4 ⟨rfl, hb4⟩
    have HW4 := Lib.hid (HW3.out.trans (hb4.mono HW3.out.size)); clear hb4
    go_wp2
    go_ret
    exact ⟨by simp, HW4.out⟩
end


set_option maxRecDepth 100000 in
theorem labelsHashes_contract (H : Type) (enc : TypeId × Value → H) (W : World) (base : Nat) (args : Array Value) (ds gs : List (DataW H)) (before : List MemPlace)
    (hval : ∀ (j : Nat) t v, Tryz.f5.params[j]? = some t → args[j]? = some v → Value.okWide Tryz.prog W .any base t v)
    (hW : DataW.Whole enc Tryz.prog Tryz.f5.params.toList Rows.labelsHashesSpec.vars false W args.toList ds gs before) (hL : laidMetH Tryz.prog Rows.labelsHashesRow.laid W) :
    Calls Tryz.prog 5 args W fun e W' => ∃ v, e = .returned v ∧ Rows.labelsHashesSpec.post enc Tryz.prog Tryz.f5 false true false false W args v W' := by
  have hW' := hW
  obtain ⟨p, q, hA0, hV, rfl, hfz, hnd⟩ := hW
  have hA : DataW.TrodAll enc Tryz.prog W 0 (fun _ => true) true Tryz.f5.params.toList args.toList ds p := hA0
  rw [Tryz.params5] at hA hval
  obtain ⟨v0, vs0, d0, ds0, p0, q0, hargs, rfl, rfl, h0, r0⟩ := trodAll_cons hA
  obtain ⟨rfl, rfl, rfl⟩ := trodAll_nil r0
  obtain rfl : args = #[v0] := by cases args; simp_all
  obtain ⟨rfl, rfl⟩ := trodVars_none hV
  obtain ⟨A0, c0, l0, rfl, hm0, hx0, hs0⟩ := open_labels (hval 0 23 v0 rfl rfl) h0
  clear hA0 hA
  unfold maxLen at hm0 hs0
  refine (lhashes_walk A0 c0 l0 W (tabs hL) hx0).mono fun e W' ⟨he, hg⟩ => ?_
  subst he
  exact ⟨_, rfl, law_end laidOut (by kernel_rfl) (by kernel_rfl) Tryz.underlying4 rfl hW' ⟨rfl, rfl, rfl⟩ hg⟩

theorem labelsHashes_met (os : Os) : laidMet Tryz.prog Rows.labelsHashesRow.laid ((laidWorld os).forCall (fun _ _ => 0) ⟨#[], #[.slice none 0 0], []⟩).memory :=
  laid_met os _
theorem labelsHashes_reads (os : Os) {H : Type} (enc : TypeId × Value → H) : ∃ places, DataW.whole enc Tryz.prog ((laidWorld os).forCall (fun _ _ => 0) ⟨#[], #[.slice none 0 0], []⟩).memory Tryz.f5.params.toList Rows.labelsHashesSpec.vars false (#[.slice none 0 0] : Array Value).toList 8 = some ([.nil], [], places) :=
  ⟨[], by kernel_rfl⟩

set_option maxRecDepth 100000 in
theorem labelsHashes_lifted (os : Os) (started : os.Started) (H : Type) (enc : TypeId × Value → H) (F : Stop.Interp) :
    ReturnsInHanded {} Tryz.checked os 5 .any ((OpenSpec.ofChange Rows.labelsHashesSpec).preRow enc Tryz.prog Tryz.f5 Rows.labelsHashesRow.domain false Rows.labelsHashesRow.laid) (((OpenSpec.ofChange Rows.labelsHashesSpec).at F).post enc Tryz.prog Tryz.f5 false true false false) := by
  obtain ⟨places, hx⟩ := labelsHashes_reads os enc
  refine returnsInHanded_of_row (C := Tryz.checked) (s := OpenSpec.ofChange Rows.labelsHashesSpec) ownKn started (by kernel_rfl) Tryz.func5
    (witness_row_at (enc := enc) (C := Tryz.checked) false (laidWorld os) #[.slice none 0 0] rfl (by kernel_rfl) (by kernel_rfl) (by kernel_rfl)
      (OpenSpec.preRow_of_cond 8 hx (by kernel_rfl) (fun k hk => by cases hk) (by kernel_rfl) (labelsHashes_met os))) ?_
  intro W base args ds gs before hval hW _ _ _ hL _ _
  exact labelsHashes_contract H enc W base args ds gs before hval hW hL

theorem labelsHashes_said : Rows.LabelsHashesSaid :=
  OpenClaim.holds_of_cond 5 Tryz.f5 rfl rfl rfl rfl rfl rfl rfl ⟨rfl, rfl, rfl, rfl, rfl⟩ rfl rfl rfl rfl rfl (by kernel_rfl) Tryz.func5 (by kernel_rfl)
    (of_decide_eq_true (by kernel_rfl)) (by unfold Func.isWrapper; first | (rw [if_pos (by decide +kernel)]; kernel_rfl) | (rw [if_neg (by decide +kernel)]; exact ⟨rfl, rfl⟩))
    (fun os started H enc _ F => by rw [OpenClaim.pre_eq_preRow]; exact labelsHashes_lifted os started H enc F)

theorem labelsHashes_plain (f : FuncId) (fn : Func) (hf : Tryz.pinned.checked.prog.funcNamed "manometer/manometerlaw05.LabelsHashes" = some f) (hfn : Tryz.pinned.checked.prog.funcs[f]? = some fn) :
    false = Tryz.pinned.checked.prog.looks [] ∧ ∀ (j : Nat) t, fn.params[j]? = some t → Tryz.pinned.checked.prog.wantsStandIn t = false := by
  obtain rfl : f = 5 := Option.some.inj ((show Tryz.prog.funcNamed "manometer/manometerlaw05.LabelsHashes" = some 5 by kernel_rfl).symm.trans hf) |>.symm
  obtain rfl : fn = Tryz.f5 := (Option.some.inj (Tryz.func5.symm.trans hfn)).symm
  refine ⟨by kernel_rfl, fun j t ht => ?_⟩
  rw [Tryz.params5] at ht
  have hm : t = 23 := by simpa using Array.mem_of_getElem? ht
  rcases hm with rfl
  · exact (show Tryz.prog.wantsStandIn 23 = false by kernel_rfl)

theorem labelsHashes_card : Rows.LabelsHashesCardSaid :=
  Claim7.holds_tied_plain_at .later [] _ _ _ _ labelsHashes_said (fun _ h => by cases h) (by kernel_rfl) (fun _ h => by cases h) labelsHashes_row_tie rfl ⟨rfl, rfl⟩ (by kernel_rfl) rfl labelsHashes_plain (by kernel_rfl)
#print axioms labelsHashes_card
end Go.Proofs.YtmicbgcdnkomjaaGreatDoor
