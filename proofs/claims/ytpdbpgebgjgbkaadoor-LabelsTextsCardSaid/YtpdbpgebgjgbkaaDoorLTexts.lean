/-
  LabelsTexts (P5.3): for every list of labels and every text the list's text, and the labels of the text, are what the plain answers say. The condition is the library's two tables': they hold what their initialisers lay, which the card ties to the program's text.
-/
import Derived.Test.YtpdbpgebgjgbkaaDoorLw
import Derived.Test.YtpdbpgebgjgbkaaDoorSm
import Derived.Test.YtpdbpgebgjgbkaaDoorRpr
import Derived.Test.YtpdbpgebgjgbkaaDoorRpa
namespace Go.Proofs.YtpdbpgebgjgbkaaDoor
set_option linter.unusedVariables false
set_option linter.unusedSimpArgs false
open Go.ChangeMaps (open_string)
open Go.ChangeShapes Go.WideShapes Go.ChangeAt Go.RowKit

theorem makeP_len' (l : List Lb) : (makeP l).2.length ≤ 16 := by
  unfold makeP
  split
  · simp
  · split
    · simp
    · split
      · simp
      · simp only
        rw [(sortP_perm _).length_eq]
        omega
theorem parseP_len (s : Bs) : (parseP s).2.length ≤ 16 := by
  unfold parseP
  split
  · simp
  · exact makeP_len' _
section
set_option maxHeartbeats 1600000
set_option maxRecDepth 100000
theorem ltexts_walk (A : Option Addr) (ca : Nat) (l : List Lb) (s : ByteArray) (w : World) (hT : Tabs w) (ha : Rd w A (lcells l)) :
    Calls Tryd.prog 8 #[.slice A l.length ca, .string s] w fun e w' => e = .returned (.bool true) ∧ Below w.heap.size w w' := by
  have HT := Lib.hid hT; clear hT
  have HA := Lib.hid ha
  clear ha
  have hlive := live_any w HT.out
  have HL := Lib.hid hlive; clear hlive
  go_enter Tryd.func8, Tryd.ntmps8
  go_wp2_with fail
  refine HL.out.mono ?_
  rintro e w1 ⟨rfl, hb1⟩
  have HW1 := Lib.hid hb1; clear hb1
  have hf := few_any A ca l w1 (HA.out.below HW1.out)
  have HL1 := Lib.hid (fun (W : World) (hb : Below w.heap.size w W) => live_any W (HT.out.below hb))
  cases hfa : fewB l with
  | false =>
    rw [hfa] at hf
    have HF := Lib.hid hf; clear hf hfa
    go_wp2_with fail
    refine (HF.out).mono ?_
    rintro e w2 ⟨rfl, hb2⟩
    have HW2 := Lib.hid (HW1.out.trans (hb2.mono HW1.out.size)); clear hb2
    go_wp2_with fail
    refine (HL1.out _ HW2.out).mono ?_
    rintro e w3 ⟨rfl, hb3⟩
    have HW3 := Lib.hid (HW2.out.trans (hb3.mono HW2.out.size)); clear hb3
    go_wp2
    go_ret
    exact ⟨rfl, HW3.out⟩
  | true =>
    rw [hfa] at hf
    have HFA := Lib.hid (few_few hfa)
    have HF := Lib.hid hf; clear hf hfa
    go_wp2_with fail
    refine (HF.out).mono ?_
    rintro e w2 ⟨rfl, hb2⟩
    have HW2 := Lib.hid (HW1.out.trans (hb2.mono HW1.out.size)); clear hb2
    by_cases hs : s.size ≤ 3000
    · have g1 : ¬ (3000 : Int) < (s.size : Int) := by omega
      have hPl : (parseP (bl s)).2.length ≤ 1000000 := Nat.le_trans (parseP_len _) (by decide)
      have hpa := fun W (hw : Below w.heap.size w W) => parse_any s W (HT.out.below hw) (by omega)
      have hrp := fun W => rparse_any s W (by omega)
      have hpr := fun W (hw : Below w.heap.size w W) => print_any A ca l W (HA.out.below hw) HFA.out
      have hrr := fun W (hw : Below w.heap.size w W) => rprint_any A ca l W (HA.out.below hw) HFA.out
      obtain ⟨P, hP⟩ : ∃ P, P = parseP (bl s) := ⟨_, rfl⟩
      simp only [← hP] at hpa hrp hPl
      clear hP
      obtain ⟨n, m⟩ := P
      simp only at hpa hrp hPl
      generalize mkB (printP l) = q at hpr hrr
      have hs2 := fun A' B' c' d' W (hr : Rd W A' (lcells m)) (hr' : Rd W B' (lcells m)) => rsame_any A' B' c' d' m m W hr hr' hPl hPl
      simp only [decide_true] at hs2
      have HPA := Lib.hid hpa; have HRP := Lib.hid hrp; have HPR := Lib.hid hpr; have HRR := Lib.hid hrr; have HS2 := Lib.hid hs2
      clear hpa hrp hpr hrr hs2 hs
      go_wp2_with fail
      refine (HPA.out _ HW2.out).mono ?_
      rintro e w4 ⟨A4, c4, rfl, ho4, hb4⟩
      obtain ⟨A4', c4', e4, hr4⟩ := own_rdL ho4
      injection e4 with e4 _ _
      subst e4
      have HW4 := Lib.hid (HW2.out.trans (hb4.mono HW2.out.size)); clear hb4 ho4
      have HR4 := Lib.hid hr4; clear hr4
      go_wp2_with fail
      refine (HRP.out _).mono ?_
      rintro e w5 ⟨A5, c5, rfl, ho5, hb5⟩
      obtain ⟨A5', c5', e5, hr5⟩ := own_rdL ho5
      injection e5 with e5 _ _
      subst e5
      have HR4' := Lib.hid (HR4.out.below hb5); clear HR4
      have HW5 := Lib.hid (HW4.out.trans (hb5.mono HW4.out.size)); clear hb5 ho5
      have HR5 := Lib.hid hr5; clear hr5
      go_wp2_with fail
      refine (HPR.out _ HW5.out).mono ?_
      rintro e w6 ⟨rfl, hb6⟩
      have HR4 := Lib.hid (HR4'.out.below (hb6)); have HR6 := Lib.hid (HR5.out.below hb6)
      have HW6 := Lib.hid (HW5.out.trans (hb6.mono HW5.out.size)); clear hb6
      go_wp2_with fail
      refine (HRR.out _ HW6.out).mono ?_
      rintro e w7 ⟨rfl, hb7⟩
      have HR8 := Lib.hid (HR4.out.below (hb7)); have HR7 := Lib.hid (HR6.out.below hb7)
      have HW7 := Lib.hid (HW6.out.trans (hb7.mono HW6.out.size)); clear hb7
      go_wp2_with fail
      refine (HS2.out _ _ _ _ _ HR8.out HR7.out).mono ?_
      rintro e w8 ⟨rfl, hd⟩
      have HW8 := Lib.hid (drawn_below HW7.out hd); clear hd
      go_wp2
      go_ret
      exact ⟨by simp, HW8.out⟩
    · have g1 : (3000 : Int) < (s.size : Int) := by omega
      go_wp2_with fail
      refine (HL1.out _ HW2.out).mono ?_
      rintro e w3 ⟨rfl, hb3⟩
      have HW3 := Lib.hid (HW2.out.trans (hb3.mono HW2.out.size)); clear hb3
      go_wp2
      go_ret
      exact ⟨rfl, HW3.out⟩
end

set_option maxRecDepth 100000 in
theorem labelsTexts_contract (H : Type) (enc : TypeId × Value → H) (W : World) (base : Nat) (args : Array Value) (ds gs : List (DataW H)) (before : List MemPlace)
    (hval : ∀ (j : Nat) t v, Tryd.f8.params[j]? = some t → args[j]? = some v → Value.okWide Tryd.prog W .any base t v)
    (hW : DataW.Whole enc Tryd.prog Tryd.f8.params.toList Rows.labelsTextsSpec.vars false W args.toList ds gs before) (hL : laidMetH Tryd.prog Rows.labelsTextsRow.laid W) :
    Calls Tryd.prog 8 args W fun e W' => ∃ v, e = .returned v ∧ Rows.labelsTextsSpec.post enc Tryd.prog Tryd.f8 false true false false W args v W' := by
  have hW' := hW
  obtain ⟨p, q, hA0, hV, rfl, hfz, hnd⟩ := hW
  have hA : DataW.TrodAll enc Tryd.prog W 0 (fun _ => true) true Tryd.f8.params.toList args.toList ds p := hA0
  rw [Tryd.params8] at hA hval
  obtain ⟨v0, vs0, d0, ds0, p0, q0, hargs, rfl, rfl, h0, r0⟩ := trodAll_cons hA
  obtain ⟨v1, vs1, d1, ds1, p1, q1, rfl, rfl, rfl, h1, r1⟩ := trodAll_cons r0
  obtain ⟨rfl, rfl, rfl⟩ := trodAll_nil r1
  obtain rfl : args = #[v0, v1] := by cases args; simp_all
  obtain ⟨rfl, rfl⟩ := trodVars_none hV
  obtain ⟨A0, c0, l0, rfl, hm0, hx0, hs0⟩ := open_labels (hval 0 25 v0 rfl rfl) h0
  obtain ⟨s1, rfl, rfl, rfl, ws1⟩ := open_string Tryd.underlying9 (hval 1 9 v1 rfl rfl) h1
  clear hA0 hA
  unfold maxLen at hm0 hs0
  unfold maxLen at ws1
  refine (ltexts_walk A0 c0 l0 s1 W (tabs hL) hx0).mono fun e W' ⟨he, hg⟩ => ?_
  subst he
  exact ⟨_, rfl, law_end laidOut (by kernel_rfl) (by kernel_rfl) Tryd.underlying4 rfl hW' ⟨rfl, rfl, rfl⟩ hg⟩

theorem labelsTexts_met (os : Os) : laidMet Tryd.prog Rows.labelsTextsRow.laid ((laidWorld os).forCall (fun _ _ => 0) ⟨#[], #[.slice none 0 0, .string ⟨#[]⟩], []⟩).memory :=
  laid_met os _
theorem labelsTexts_reads (os : Os) {H : Type} (enc : TypeId × Value → H) : ∃ places, DataW.whole enc Tryd.prog ((laidWorld os).forCall (fun _ _ => 0) ⟨#[], #[.slice none 0 0, .string ⟨#[]⟩], []⟩).memory Tryd.f8.params.toList Rows.labelsTextsSpec.vars false (#[.slice none 0 0, .string ⟨#[]⟩] : Array Value).toList 8 = some ([.nil, .lit (.string [])], [], places) :=
  ⟨[], by kernel_rfl⟩

set_option maxRecDepth 100000 in
theorem labelsTexts_lifted (os : Os) (started : os.Started) (H : Type) (enc : TypeId × Value → H) (F : Stop.Interp) :
    ReturnsInHanded {} Tryd.checked os 8 .any ((OpenSpec.ofChange Rows.labelsTextsSpec).preRow enc Tryd.prog Tryd.f8 Rows.labelsTextsRow.domain false Rows.labelsTextsRow.laid) (((OpenSpec.ofChange Rows.labelsTextsSpec).at F).post enc Tryd.prog Tryd.f8 false true false false) := by
  obtain ⟨places, hx⟩ := labelsTexts_reads os enc
  refine returnsInHanded_of_row (C := Tryd.checked) (s := OpenSpec.ofChange Rows.labelsTextsSpec) ownKn started (by kernel_rfl) Tryd.func8
    (witness_row_at (enc := enc) (C := Tryd.checked) false (laidWorld os) #[.slice none 0 0, .string ⟨#[]⟩] rfl (by kernel_rfl) (by kernel_rfl) (by kernel_rfl)
      (OpenSpec.preRow_of_cond 8 hx (by kernel_rfl) (fun k hk => by cases hk) (by kernel_rfl) (labelsTexts_met os))) ?_
  intro W base args ds gs before hval hW _ _ _ hL _ _
  exact labelsTexts_contract H enc W base args ds gs before hval hW hL

theorem labelsTexts_said : Rows.LabelsTextsSaid :=
  OpenClaim.holds_of_cond 8 Tryd.f8 rfl rfl rfl rfl rfl rfl rfl ⟨rfl, rfl, rfl, rfl, rfl⟩ rfl rfl rfl rfl rfl (by kernel_rfl) Tryd.func8 (by kernel_rfl)
    (of_decide_eq_true (by kernel_rfl)) (by unfold Func.isWrapper; first | (rw [if_pos (by decide +kernel)]; kernel_rfl) | (rw [if_neg (by decide +kernel)]; exact ⟨rfl, rfl⟩))
    (fun os started H enc _ F => by rw [OpenClaim.pre_eq_preRow]; exact labelsTexts_lifted os started H enc F)

theorem labelsTexts_plain (f : FuncId) (fn : Func) (hf : Tryd.pinned.checked.prog.funcNamed "manometer/manometerlaw05.LabelsTexts" = some f) (hfn : Tryd.pinned.checked.prog.funcs[f]? = some fn) :
    false = Tryd.pinned.checked.prog.looks [] ∧ ∀ (j : Nat) t, fn.params[j]? = some t → Tryd.pinned.checked.prog.wantsStandIn t = false := by
  obtain rfl : f = 8 := Option.some.inj ((show Tryd.prog.funcNamed "manometer/manometerlaw05.LabelsTexts" = some 8 by kernel_rfl).symm.trans hf) |>.symm
  obtain rfl : fn = Tryd.f8 := (Option.some.inj (Tryd.func8.symm.trans hfn)).symm
  refine ⟨by kernel_rfl, fun j t ht => ?_⟩
  rw [Tryd.params8] at ht
  have hm : t = 25 ∨ t = 9 := by simpa using Array.mem_of_getElem? ht
  rcases hm with rfl | rfl
  · exact (show Tryd.prog.wantsStandIn 25 = false by kernel_rfl)
  · exact (show Tryd.prog.wantsStandIn 9 = false by kernel_rfl)

theorem labelsTexts_card : Rows.LabelsTextsCardSaid :=
  Claim7.holds_tied_plain_at .later [] _ _ _ _ labelsTexts_said (fun _ h => by cases h) (by kernel_rfl) (fun _ h => by cases h) labelsTexts_row_tie rfl ⟨rfl, rfl⟩ (by kernel_rfl) rfl labelsTexts_plain (by kernel_rfl)
#print axioms labelsTexts_card
end Go.Proofs.YtpdbpgebgjgbkaaDoor
