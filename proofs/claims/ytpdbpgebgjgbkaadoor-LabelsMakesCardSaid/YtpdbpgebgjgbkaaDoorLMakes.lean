/-
  LabelsMakes (P5.1): for every list of labels what is wrong with it, and what Make makes of it, is what the plain answers say; what was handed in is left as it is. The condition is the library's two tables': they hold what their initialisers lay, which the card ties to the program's text.
-/
import Derived.Test.YtpdbpgebgjgbkaaDoorLw
import Derived.Test.YtpdbpgebgjgbkaaDoorCo
import Derived.Test.YtpdbpgebgjgbkaaDoorSm
import Derived.Test.YtpdbpgebgjgbkaaDoorRr2
import Derived.Test.YtpdbpgebgjgbkaaDoorRma
namespace Go.Proofs.YtpdbpgebgjgbkaaDoor
set_option linter.unusedVariables false
set_option linter.unusedSimpArgs false
open Go.ChangeMaps (open_string)
open Go.ChangeShapes Go.WideShapes Go.ChangeAt Go.RowKit

theorem makeP_len (l : List Lb) : (makeP l).2.length ≤ l.length := by
  unfold makeP
  split
  · simp
  · split
    · simp
    · split
      · simp
      · simp only
        rw [(sortP_perm _).length_eq]
        unfold fullP
        exact List.length_filter_le _ _
section
set_option maxHeartbeats 1600000
set_option maxRecDepth 100000
theorem lmakes_walk (A : Option Addr) (ca : Nat) (l : List Lb) (w : World) (hT : Tabs w) (ha : Rd w A (lcells l)) :
    Calls Tryd.prog 4 #[.slice A l.length ca] w fun e w' => e = .returned (.bool true) ∧ Below w.heap.size w w' := by
  have HT := Lib.hid hT; clear hT
  have HA := Lib.hid ha
  clear ha
  have hlive := live_any w HT.out
  have HL := Lib.hid hlive; clear hlive
  go_enter Tryd.func4, Tryd.ntmps4
  go_wp2_with fail
  refine HL.out.mono ?_
  rintro e w1 ⟨rfl, hb1⟩
  have HW1 := Lib.hid hb1; clear hb1
  have hf := few_any A ca l w1 (HA.out.below HW1.out)
  have HL1 := Lib.hid (fun (W : World) (hb : Below w.heap.size w W) => live_any W (HT.out.below hb))
  cases hfa : fewB l with
  | false =>
    rw [hfa] at hf
    have HF := Lib.hid hf; clear hf hfa
    go_wp2_with fail
    refine (HF.out).mono ?_
    rintro e w2 ⟨rfl, hb2⟩
    have HW2 := Lib.hid (HW1.out.trans (hb2.mono HW1.out.size)); clear hb2
    go_wp2_with fail
    refine (HL1.out _ HW2.out).mono ?_
    rintro e w3 ⟨rfl, hb3⟩
    have HW3 := Lib.hid (HW2.out.trans (hb3.mono HW2.out.size)); clear hb3
    go_wp2
    go_ret
    exact ⟨rfl, HW3.out⟩
  | true =>
    rw [hfa] at hf
    have HFA := Lib.hid (few_few hfa)
    have HF := Lib.hid hf; clear hf hfa
    have hl1 : l.length ≤ 1000000 := by have := HFA.out.1; omega
    have hPl : (makeP l).2.length ≤ 1000000 := Nat.le_trans (makeP_len l) hl1
    have hcp := fun W (hw : Below w.heap.size w W) => copied_any A ca l W (HA.out.below hw) hl1
    have hmk := fun A c W (hw : Below w.heap.size w W) (hr : Rd W A (lcells l)) => make_any A c l W (HT.out.below hw) hr HFA.out
    have hrm := fun W (hw : Below w.heap.size w W) => rmake_any A ca l W (HA.out.below hw) HFA.out
    have hri := fun W (hw : Below w.heap.size w W) => right_any A ca l W (HT.out.below hw) (HA.out.below hw) HFA.out
    have hrr := fun W (hw : Below w.heap.size w W) => rright_any A ca l W (HA.out.below hw) HFA.out
    have hs1 := fun A' c' W (hw : Below w.heap.size w W) (hr : Rd W A' (lcells l)) => rsame_any A' A c' ca l l W hr (HA.out.below hw) hl1 hl1
    simp only [decide_true] at hs1
    obtain ⟨P, hP⟩ : ∃ P, P = makeP l := ⟨_, rfl⟩
    simp only [← hP] at hmk hrm hPl
    clear hP
    obtain ⟨n, m⟩ := P
    simp only at hmk hrm hPl
    obtain ⟨r, hr⟩ : ∃ r, r = rightP l := ⟨_, rfl⟩
    simp only [← hr] at hri hrr
    clear hr
    have hs2 := fun A' B' c' d' W (hr : Rd W A' (lcells m)) (hr' : Rd W B' (lcells m)) => rsame_any A' B' c' d' m m W hr hr' hPl hPl
    simp only [decide_true] at hs2
    have HCP := Lib.hid hcp; have HMK := Lib.hid hmk; have HRM := Lib.hid hrm; have HRI := Lib.hid hri; have HRR := Lib.hid hrr; have HS1 := Lib.hid hs1; have HS2 := Lib.hid hs2
    clear hcp hmk hrm hri hrr hs1 hs2
    go_wp2_with fail
    refine (HF.out).mono ?_
    rintro e w2 ⟨rfl, hb2⟩
    have HW2 := Lib.hid (HW1.out.trans (hb2.mono HW1.out.size)); clear hb2
    go_wp2_with fail
    refine (HCP.out _ HW2.out).mono ?_
    rintro e w3 ⟨A3, c3, rfl, ho3, hb3⟩
    obtain ⟨A3', c3', e3, hr3⟩ := own_rdL ho3
    injection e3 with e3 _ _
    subst e3
    have HW3 := Lib.hid (HW2.out.trans (hb3.mono HW2.out.size)); clear hb3 ho3
    have HR3 := Lib.hid hr3; clear hr3
    go_wp2_with fail
    refine (HMK.out _ _ _ HW3.out HR3.out).mono ?_
    rintro e w4 ⟨A4, c4, rfl, ho4, hb4⟩
    obtain ⟨A4', c4', e4, hr4⟩ := own_rdL ho4
    injection e4 with e4 _ _
    subst e4
    have HR3' := Lib.hid (HR3.out.below hb4); clear HR3
    have HW4 := Lib.hid (HW3.out.trans (hb4.mono HW3.out.size)); clear hb4 ho4
    have HR4 := Lib.hid hr4; clear hr4
    go_wp2_with fail
    refine (HRM.out _ HW4.out).mono ?_
    rintro e w5 ⟨A5, c5, rfl, ho5, hb5⟩
    obtain ⟨A5', c5', e5, hr5⟩ := own_rdL ho5
    injection e5 with e5 _ _
    subst e5
    have HR3 := Lib.hid (HR3'.out.below hb5); clear HR3'
    have HR4' := Lib.hid (HR4.out.below hb5); clear HR4
    have HW5 := Lib.hid (HW4.out.trans (hb5.mono HW4.out.size)); clear hb5 ho5
    have HR5 := Lib.hid hr5; clear hr5
    go_wp2_with fail
    refine (HS1.out _ _ _ HW5.out HR3.out).mono ?_
    rintro e w6 ⟨rfl, hd⟩
    have hr4 : Rd w6 A4 (lcells m) := by obtain ⟨n, rfl⟩ := hd; exact HR4'.out.drewN n
    have hr5 : Rd w6 A5 (lcells m) := by obtain ⟨n, rfl⟩ := hd; exact HR5.out.drewN n
    have HW6 := Lib.hid (drawn_below HW5.out hd); clear hd
    have HR4 := Lib.hid hr4; have HR6 := Lib.hid hr5; clear hr4 hr5
    go_wp2_with fail
    refine (HS2.out _ _ _ _ _ HR4.out HR6.out).mono ?_
    rintro e w7 ⟨rfl, hd⟩
    have HW7 := Lib.hid (drawn_below HW6.out hd); clear hd
    go_wp2_with fail
    refine (HRI.out _ HW7.out).mono ?_
    rintro e w8 ⟨rfl, hb8⟩
    have HW8 := Lib.hid (HW7.out.trans (hb8.mono HW7.out.size)); clear hb8
    go_wp2_with fail
    refine (HRR.out _ HW8.out).mono ?_
    rintro e w9 ⟨rfl, hb9⟩
    have HW9 := Lib.hid (HW8.out.trans (hb9.mono HW8.out.size)); clear hb9
    go_wp2
    go_ret
    exact ⟨by simp, HW9.out⟩
end

set_option maxRecDepth 100000 in
theorem labelsMakes_contract (H : Type) (enc : TypeId × Value → H) (W : World) (base : Nat) (args : Array Value) (ds gs : List (DataW H)) (before : List MemPlace)
    (hval : ∀ (j : Nat) t v, Tryd.f4.params[j]? = some t → args[j]? = some v → Value.okWide Tryd.prog W .any base t v)
    (hW : DataW.Whole enc Tryd.prog Tryd.f4.params.toList Rows.labelsMakesSpec.vars false W args.toList ds gs before) (hL : laidMetH Tryd.prog Rows.labelsMakesRow.laid W) :
    Calls Tryd.prog 4 args W fun e W' => ∃ v, e = .returned v ∧ Rows.labelsMakesSpec.post enc Tryd.prog Tryd.f4 false true false false W args v W' := by
  have hW' := hW
  obtain ⟨p, q, hA0, hV, rfl, hfz, hnd⟩ := hW
  have hA : DataW.TrodAll enc Tryd.prog W 0 (fun _ => true) true Tryd.f4.params.toList args.toList ds p := hA0
  rw [Tryd.params4] at hA hval
  obtain ⟨v0, vs0, d0, ds0, p0, q0, hargs, rfl, rfl, h0, r0⟩ := trodAll_cons hA
  obtain ⟨rfl, rfl, rfl⟩ := trodAll_nil r0
  obtain rfl : args = #[v0] := by cases args; simp_all
  obtain ⟨rfl, rfl⟩ := trodVars_none hV
  obtain ⟨A0, c0, l0, rfl, hm0, hx0, hs0⟩ := open_labels (hval 0 25 v0 rfl rfl) h0
  clear hA0 hA
  unfold maxLen at hm0 hs0
  refine (lmakes_walk A0 c0 l0 W (tabs hL) hx0).mono fun e W' ⟨he, hg⟩ => ?_
  subst he
  exact ⟨_, rfl, law_end laidOut (by kernel_rfl) (by kernel_rfl) Tryd.underlying4 rfl hW' ⟨rfl, rfl, rfl⟩ hg⟩

theorem labelsMakes_met (os : Os) : laidMet Tryd.prog Rows.labelsMakesRow.laid ((laidWorld os).forCall (fun _ _ => 0) ⟨#[], #[.slice none 0 0], []⟩).memory :=
  laid_met os _
theorem labelsMakes_reads (os : Os) {H : Type} (enc : TypeId × Value → H) : ∃ places, DataW.whole enc Tryd.prog ((laidWorld os).forCall (fun _ _ => 0) ⟨#[], #[.slice none 0 0], []⟩).memory Tryd.f4.params.toList Rows.labelsMakesSpec.vars false (#[.slice none 0 0] : Array Value).toList 8 = some ([.nil], [], places) :=
  ⟨[], by kernel_rfl⟩

set_option maxRecDepth 100000 in
theorem labelsMakes_lifted (os : Os) (started : os.Started) (H : Type) (enc : TypeId × Value → H) (F : Stop.Interp) :
    ReturnsInHanded {} Tryd.checked os 4 .any ((OpenSpec.ofChange Rows.labelsMakesSpec).preRow enc Tryd.prog Tryd.f4 Rows.labelsMakesRow.domain false Rows.labelsMakesRow.laid) (((OpenSpec.ofChange Rows.labelsMakesSpec).at F).post enc Tryd.prog Tryd.f4 false true false false) := by
  obtain ⟨places, hx⟩ := labelsMakes_reads os enc
  refine returnsInHanded_of_row (C := Tryd.checked) (s := OpenSpec.ofChange Rows.labelsMakesSpec) ownKn started (by kernel_rfl) Tryd.func4
    (witness_row_at (enc := enc) (C := Tryd.checked) false (laidWorld os) #[.slice none 0 0] rfl (by kernel_rfl) (by kernel_rfl) (by kernel_rfl)
      (OpenSpec.preRow_of_cond 8 hx (by kernel_rfl) (fun k hk => by cases hk) (by kernel_rfl) (labelsMakes_met os))) ?_
  intro W base args ds gs before hval hW _ _ _ hL _ _
  exact labelsMakes_contract H enc W base args ds gs before hval hW hL

theorem labelsMakes_said : Rows.LabelsMakesSaid :=
  OpenClaim.holds_of_cond 4 Tryd.f4 rfl rfl rfl rfl rfl rfl rfl ⟨rfl, rfl, rfl, rfl, rfl⟩ rfl rfl rfl rfl rfl (by kernel_rfl) Tryd.func4 (by kernel_rfl)
    (of_decide_eq_true (by kernel_rfl)) (by unfold Func.isWrapper; first | (rw [if_pos (by decide +kernel)]; kernel_rfl) | (rw [if_neg (by decide +kernel)]; exact ⟨rfl, rfl⟩))
    (fun os started H enc _ F => by rw [OpenClaim.pre_eq_preRow]; exact labelsMakes_lifted os started H enc F)

theorem labelsMakes_plain (f : FuncId) (fn : Func) (hf : Tryd.pinned.checked.prog.funcNamed "manometer/manometerlaw05.LabelsMakes" = some f) (hfn : Tryd.pinned.checked.prog.funcs[f]? = some fn) :
    false = Tryd.pinned.checked.prog.looks [] ∧ ∀ (j : Nat) t, fn.params[j]? = some t → Tryd.pinned.checked.prog.wantsStandIn t = false := by
  obtain rfl : f = 4 := Option.some.inj ((show Tryd.prog.funcNamed "manometer/manometerlaw05.LabelsMakes" = some 4 by kernel_rfl).symm.trans hf) |>.symm
  obtain rfl : fn = Tryd.f4 := (Option.some.inj (Tryd.func4.symm.trans hfn)).symm
  refine ⟨by kernel_rfl, fun j t ht => ?_⟩
  rw [Tryd.params4] at ht
  have hm : t = 25 := by simpa using Array.mem_of_getElem? ht
  rcases hm with rfl
  · exact (show Tryd.prog.wantsStandIn 25 = false by kernel_rfl)

theorem labelsMakes_card : Rows.LabelsMakesCardSaid :=
  Claim7.holds_tied_plain_at .later [] _ _ _ _ labelsMakes_said (fun _ h => by cases h) (by kernel_rfl) (fun _ h => by cases h) labelsMakes_row_tie rfl ⟨rfl, rfl⟩ (by kernel_rfl) rfl labelsMakes_plain (by kernel_rfl)
#print axioms labelsMakes_card
end Go.Proofs.YtpdbpgebgjgbkaaDoor
