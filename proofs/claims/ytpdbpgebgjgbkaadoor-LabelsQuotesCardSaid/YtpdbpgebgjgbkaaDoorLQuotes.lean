/-
  LabelsQuotes (P5.3): for every text what stands between quotes, and what the text begins with between them, is what the plain answers say. The condition is the library's two tables': they hold what their initialisers lay, which the card ties to the program's text.
-/
import Derived.Test.YtpdbpgebgjgbkaaDoorLw
import Derived.Test.YtpdbpgebgjgbkaaDoorRu
import Derived.Test.YtpdbpgebgjgbkaaDoorRq
namespace Go.Proofs.YtpdbpgebgjgbkaaDoor
set_option linter.unusedVariables false
set_option linter.unusedSimpArgs false
open Go.ChangeMaps (open_string)
open Go.ChangeShapes Go.WideShapes Go.ChangeAt Go.RowKit

section
set_option maxHeartbeats 1600000
set_option maxRecDepth 100000
theorem lquotes_walk (s : ByteArray) (w : World) (hT : Tabs w) : Calls Tryd.prog 7 #[.string s] w fun e w' => e = .returned (.bool true) ∧ Below w.heap.size w w' := by
  have HT := Lib.hid hT; clear hT
  have hlive := live_any w HT.out
  have HL := Lib.hid hlive; clear hlive
  have HL1 := Lib.hid (fun (W : World) (hb : Below w.heap.size w W) => live_any W (HT.out.below hb))
  go_enter Tryd.func7, Tryd.ntmps7
  go_wp2_with fail
  refine HL.out.mono ?_
  rintro e w1 ⟨rfl, hb1⟩
  have HW1 := Lib.hid hb1; clear hb1
  by_cases hs : s.size ≤ 2000
  · have g1 : ¬ (2000 : Int) < (s.size : Int) := by omega
    have h1 := fun W => unq_any s W (by omega)
    have h2 := fun W => runq_any s W (by omega)
    have h3 := fun W => quote_any s W (by omega)
    have h4 := fun W => rquote_any s W (by omega)
    generalize unqP (bl s) = u at h1 h2
    obtain ⟨a, n, x⟩ := u
    simp only at h1 h2
    generalize mkB a = ab at h1 h2
    generalize mkB (quoteP (bl s)) = q at h3 h4
    have H1 := Lib.hid h1; have H2 := Lib.hid h2; have H3 := Lib.hid h3; have H4 := Lib.hid h4
    clear h1 h2 h3 h4
    go_wp2_with fail
    refine (H1.out _).mono ?_
    rintro e w2 ⟨rfl, hb2⟩
    have HW2 := Lib.hid (HW1.out.trans (hb2.mono HW1.out.size)); clear hb2
    go_wp2_with fail
    refine (H2.out _).mono ?_
    rintro e w3 ⟨rfl, hb3⟩
    have HW3 := Lib.hid (HW2.out.trans (hb3.mono HW2.out.size)); clear hb3
    go_wp2_with fail
    refine (H3.out _).mono ?_
    rintro e w4 ⟨rfl, hb4⟩
    have HW4 := Lib.hid (HW3.out.trans (hb4.mono HW3.out.size)); clear hb4
    go_wp2_with fail
    refine (H4.out _).mono ?_
    rintro e w5 ⟨rfl, hb5⟩
    have HW5 := Lib.hid (HW4.out.trans (hb5.mono HW4.out.size)); clear hb5
    go_wp2
    go_ret
    exact ⟨rfl, HW5.out⟩
  · have g1 : (2000 : Int) < (s.size : Int) := by omega
    go_wp2_with fail
    refine (HL1.out _ HW1.out).mono ?_
    rintro e w2 ⟨rfl, hb2⟩
    have HW2 := Lib.hid (HW1.out.trans (hb2.mono HW1.out.size)); clear hb2
    go_wp2
    go_ret
    exact ⟨rfl, HW2.out⟩
end

set_option maxRecDepth 100000 in
theorem labelsQuotes_contract (H : Type) (enc : TypeId × Value → H) (W : World) (base : Nat) (args : Array Value) (ds gs : List (DataW H)) (before : List MemPlace)
    (hval : ∀ (j : Nat) t v, Tryd.f7.params[j]? = some t → args[j]? = some v → Value.okWide Tryd.prog W .any base t v)
    (hW : DataW.Whole enc Tryd.prog Tryd.f7.params.toList Rows.labelsQuotesSpec.vars false W args.toList ds gs before) (hL : laidMetH Tryd.prog Rows.labelsQuotesRow.laid W) :
    Calls Tryd.prog 7 args W fun e W' => ∃ v, e = .returned v ∧ Rows.labelsQuotesSpec.post enc Tryd.prog Tryd.f7 false true false false W args v W' := by
  have hW' := hW
  obtain ⟨p, q, hA0, hV, rfl, hfz, hnd⟩ := hW
  have hA : DataW.TrodAll enc Tryd.prog W 0 (fun _ => true) true Tryd.f7.params.toList args.toList ds p := hA0
  rw [Tryd.params7] at hA hval
  obtain ⟨v0, vs0, d0, ds0, p0, q0, hargs, rfl, rfl, h0, r0⟩ := trodAll_cons hA
  obtain ⟨rfl, rfl, rfl⟩ := trodAll_nil r0
  obtain rfl : args = #[v0] := by cases args; simp_all
  obtain ⟨rfl, rfl⟩ := trodVars_none hV
  obtain ⟨s0, rfl, rfl, rfl, ws0⟩ := open_string Tryd.underlying9 (hval 0 9 v0 rfl rfl) h0
  clear hA0 hA
  unfold maxLen at ws0
  refine (lquotes_walk s0 W (tabs hL)).mono fun e W' ⟨he, hg⟩ => ?_
  subst he
  exact ⟨_, rfl, law_end laidOut (by kernel_rfl) (by kernel_rfl) Tryd.underlying4 rfl hW' ⟨rfl, rfl, rfl⟩ hg⟩

theorem labelsQuotes_met (os : Os) : laidMet Tryd.prog Rows.labelsQuotesRow.laid ((laidWorld os).forCall (fun _ _ => 0) ⟨#[], #[.string ⟨#[]⟩], []⟩).memory :=
  laid_met os _
theorem labelsQuotes_reads (os : Os) {H : Type} (enc : TypeId × Value → H) : ∃ places, DataW.whole enc Tryd.prog ((laidWorld os).forCall (fun _ _ => 0) ⟨#[], #[.string ⟨#[]⟩], []⟩).memory Tryd.f7.params.toList Rows.labelsQuotesSpec.vars false (#[.string ⟨#[]⟩] : Array Value).toList 8 = some ([.lit (.string [])], [], places) :=
  ⟨[], by kernel_rfl⟩

set_option maxRecDepth 100000 in
theorem labelsQuotes_lifted (os : Os) (started : os.Started) (H : Type) (enc : TypeId × Value → H) (F : Stop.Interp) :
    ReturnsInHanded {} Tryd.checked os 7 .any ((OpenSpec.ofChange Rows.labelsQuotesSpec).preRow enc Tryd.prog Tryd.f7 Rows.labelsQuotesRow.domain false Rows.labelsQuotesRow.laid) (((OpenSpec.ofChange Rows.labelsQuotesSpec).at F).post enc Tryd.prog Tryd.f7 false true false false) := by
  obtain ⟨places, hx⟩ := labelsQuotes_reads os enc
  refine returnsInHanded_of_row (C := Tryd.checked) (s := OpenSpec.ofChange Rows.labelsQuotesSpec) ownKn started (by kernel_rfl) Tryd.func7
    (witness_row_at (enc := enc) (C := Tryd.checked) false (laidWorld os) #[.string ⟨#[]⟩] rfl (by kernel_rfl) (by kernel_rfl) (by kernel_rfl)
      (OpenSpec.preRow_of_cond 8 hx (by kernel_rfl) (fun k hk => by cases hk) (by kernel_rfl) (labelsQuotes_met os))) ?_
  intro W base args ds gs before hval hW _ _ _ hL _ _
  exact labelsQuotes_contract H enc W base args ds gs before hval hW hL

theorem labelsQuotes_said : Rows.LabelsQuotesSaid :=
  OpenClaim.holds_of_cond 7 Tryd.f7 rfl rfl rfl rfl rfl rfl rfl ⟨rfl, rfl, rfl, rfl, rfl⟩ rfl rfl rfl rfl rfl (by kernel_rfl) Tryd.func7 (by kernel_rfl)
    (of_decide_eq_true (by kernel_rfl)) (by unfold Func.isWrapper; first | (rw [if_pos (by decide +kernel)]; kernel_rfl) | (rw [if_neg (by decide +kernel)]; exact ⟨rfl, rfl⟩))
    (fun os started H enc _ F => by rw [OpenClaim.pre_eq_preRow]; exact labelsQuotes_lifted os started H enc F)

theorem labelsQuotes_plain (f : FuncId) (fn : Func) (hf : Tryd.pinned.checked.prog.funcNamed "manometer/manometerlaw05.LabelsQuotes" = some f) (hfn : Tryd.pinned.checked.prog.funcs[f]? = some fn) :
    false = Tryd.pinned.checked.prog.looks [] ∧ ∀ (j : Nat) t, fn.params[j]? = some t → Tryd.pinned.checked.prog.wantsStandIn t = false := by
  obtain rfl : f = 7 := Option.some.inj ((show Tryd.prog.funcNamed "manometer/manometerlaw05.LabelsQuotes" = some 7 by kernel_rfl).symm.trans hf) |>.symm
  obtain rfl : fn = Tryd.f7 := (Option.some.inj (Tryd.func7.symm.trans hfn)).symm
  refine ⟨by kernel_rfl, fun j t ht => ?_⟩
  rw [Tryd.params7] at ht
  have hm : t = 9 := by simpa using Array.mem_of_getElem? ht
  rcases hm with rfl
  · exact (show Tryd.prog.wantsStandIn 9 = false by kernel_rfl)

theorem labelsQuotes_card : Rows.LabelsQuotesCardSaid :=
  Claim7.holds_tied_plain_at .later [] _ _ _ _ labelsQuotes_said (fun _ h => by cases h) (by kernel_rfl) (fun _ h => by cases h) labelsQuotes_row_tie rfl ⟨rfl, rfl⟩ (by kernel_rfl) rfl labelsQuotes_plain (by kernel_rfl)
#print axioms labelsQuotes_card
end Go.Proofs.YtpdbpgebgjgbkaaDoor
