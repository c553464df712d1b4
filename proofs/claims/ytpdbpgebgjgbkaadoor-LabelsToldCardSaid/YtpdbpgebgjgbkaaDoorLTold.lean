/-
  LabelsTold (P5.6): for every list of labels and every two texts: right labels are got again of their text, and Make leaves them as they are; a text between quotes is got again, whatever stands behind. The condition is the library's two tables': they hold what their initialisers lay, which the card ties to the program's text.
-/
import Derived.Test.YtpdbpgebgjgbkaaDoorLw
import Derived.Test.YtpdbpgebgjgbkaaDoorTb
import Derived.Test.YtpdbpgebgjgbkaaDoorRg
import Derived.Test.YtpdbpgebgjgbkaaDoorSm
namespace Go.Proofs.YtpdbpgebgjgbkaaDoor
set_option linter.unusedVariables false
set_option linter.unusedSimpArgs false
open Go.ChangeMaps (open_string)
open Go.ChangeShapes Go.WideShapes Go.ChangeAt Go.RowKit

theorem bl_append (a b : ByteArray) : bl (a ++ b) = bl a ++ bl b := by unfold bl; rw [ByteArray.data_append, Array.toList_append]
section
set_option maxHeartbeats 1600000
set_option maxRecDepth 100000
theorem ltold_walk (A : Option Addr) (ca : Nat) (l : List Lb) (s t : ByteArray) (w : World) (hT : Tabs w) (ha : Rd w A (lcells l)) :
    Calls Tryd.prog 9 #[.slice A l.length ca, .string s, .string t] w fun e w' => e = .returned (.bool true) ∧ Below w.heap.size w w' := by
  have HT := Lib.hid hT; clear hT
  have HA := Lib.hid ha
  clear ha
  have hlive := live_any w HT.out
  have HL := Lib.hid hlive; clear hlive
  go_enter Tryd.func9, Tryd.ntmps9
  go_wp2_with fail
  refine HL.out.mono ?_
  rintro e w1 ⟨rfl, hb1⟩
  have HW1 := Lib.hid hb1; clear hb1
  have hf := few_any A ca l w1 (HA.out.below HW1.out)
  have HL1 := Lib.hid (fun (W : World) (hb : Below w.heap.size w W) => live_any W (HT.out.below hb))
  cases hfa : fewB l with
  | false =>
    rw [hfa] at hf
    have HF := Lib.hid hf; clear hf hfa
    go_wp2_with fail
    refine (HF.out).mono ?_
    rintro e w2 ⟨rfl, hb2⟩
    have HW2 := Lib.hid (HW1.out.trans (hb2.mono HW1.out.size)); clear hb2
    go_wp2_with fail
    refine (HL1.out _ HW2.out).mono ?_
    rintro e w3 ⟨rfl, hb3⟩
    have HW3 := Lib.hid (HW2.out.trans (hb3.mono HW2.out.size)); clear hb3
    go_wp2
    go_ret
    exact ⟨rfl, HW3.out⟩
  | true =>
    rw [hfa] at hf
    have HFA := Lib.hid (few_few hfa)
    have HF := Lib.hid hf; clear hf hfa
    go_wp2_with fail
    refine (HF.out).mono ?_
    rintro e w2 ⟨rfl, hb2⟩
    have HW2 := Lib.hid (HW1.out.trans (hb2.mono HW1.out.size)); clear hb2
    by_cases hs : s.size ≤ 2000
    · have g1 : ¬ (2000 : Int) < (s.size : Int) := by omega
      by_cases ht : t.size ≤ 2000
      · have g2 : ¬ (2000 : Int) < (t.size : Int) := by omega
        have hq := fun W => quote_any s W (by omega)
        obtain ⟨q, hqq⟩ : ∃ q, q = mkB (quoteP (bl s)) := ⟨_, rfl⟩
        have hql : q.size ≤ 4002 := by rw [hqq, mkB_size]; have := quoteP_le (bl s); rw [bl_len] at this; omega
        have hqs : (quoteP (bl s)).length = q.size := by rw [hqq, mkB_size]
        have hqb : bl q = quoteP (bl s) := by rw [hqq, bl_mk]
        simp only [← hqq] at hq
        have hu := fun W => unq_any (q ++ t) W (by rw [ByteArray.size_append]; omega)
        rw [bl_append, hqb, unq_quote, hqs] at hu
        simp only [mk_bl] at hu
        have g3 : ¬ (9223372036854775807 : Int) < (q.size : Int) + (t.size : Int) := by omega
        have HQ := Lib.hid hq; have HU := Lib.hid hu
        clear hq hu hqq hqs hqb
        have hr := fun W (hw : Below w.heap.size w W) => right_any A ca l W (HT.out.below hw) (HA.out.below hw) HFA.out
        go_wp2_with fail
        refine (HQ.out _).mono ?_
        rintro e w3 ⟨rfl, hb3⟩
        have HW3 := Lib.hid (HW2.out.trans (hb3.mono HW2.out.size)); clear hb3
        go_wp2_with fail
        refine (HU.out _).mono ?_
        rintro e w4 ⟨rfl, hb4⟩
        have HW4 := Lib.hid (HW3.out.trans (hb4.mono HW3.out.size)); clear hb4
        by_cases hr0 : rightP l = 0
        · rw [hr0] at hr
          have HR := Lib.hid hr; clear hr
          have hmk := fun W (hw : Below w.heap.size w W) => make_any A ca l W (HT.out.below hw) (HA.out.below hw) HFA.out
          have hpr := fun W (hw : Below w.heap.size w W) => print_any A ca l W (HA.out.below hw) HFA.out
          have hpa := fun W (hw : Below w.heap.size w W) => parse_any (mkB (printP l)) W (HT.out.below hw) (by rw [mkB_size]; exact right_size hr0)
          rw [right_make hr0] at hmk
          rw [bl_mk, right_parse hr0] at hpa
          simp only at hmk hpa
          generalize mkB (printP l) = p at hpr hpa
          have hsame := fun A' c' W (hw : Below w.heap.size w W) (hr : Rd W A' (lcells l)) => same_any A A' ca c' l l W (HA.out.below hw) hr (by have := HFA.out.1; omega) (by have := HFA.out.1; omega)
          simp only [decide_true] at hsame
          have HMK := Lib.hid hmk; have HPR := Lib.hid hpr; have HPA := Lib.hid hpa; have HSA := Lib.hid hsame
          clear hmk hpr hpa hsame hr0
          go_wp2_with fail
          refine (HR.out _ HW4.out).mono ?_
          rintro e w5 ⟨rfl, hb5⟩
          have HW5 := Lib.hid (HW4.out.trans (hb5.mono HW4.out.size)); clear hb5
          go_wp2_with fail
          refine (HPR.out _ HW5.out).mono ?_
          rintro e w6 ⟨rfl, hb6⟩
          have HW6 := Lib.hid (HW5.out.trans (hb6.mono HW5.out.size)); clear hb6
          go_wp2_with fail
          refine (HPA.out _ HW6.out).mono ?_
          rintro e w7 ⟨A7, c7, rfl, ho7, hb7⟩
          obtain ⟨A7', c7', e7, hr7⟩ := own_rdL ho7
          injection e7 with e7 _ _
          subst e7
          have HW7 := Lib.hid (HW6.out.trans (hb7.mono HW6.out.size)); clear hb7 ho7
          have HR7 := Lib.hid hr7; clear hr7
          go_wp2_with fail
          refine (HMK.out _ HW7.out).mono ?_
          rintro e w8 ⟨A8, c8, rfl, ho8, hb8⟩
          obtain ⟨A8', c8', e8, hr8⟩ := own_rdL ho8
          injection e8 with e8 _ _
          subst e8
          have HR7' := Lib.hid (HR7.out.below hb8); clear HR7
          have HW8 := Lib.hid (HW7.out.trans (hb8.mono HW7.out.size)); clear hb8 ho8
          have HR8 := Lib.hid hr8; clear hr8
          go_wp2_with fail
          refine (HSA.out _ _ _ HW8.out HR7'.out).mono ?_
          rintro e w9 ⟨rfl, hd⟩
          have hr9 : Rd w9 A8 (lcells l) := by obtain ⟨n, rfl⟩ := hd; exact HR8.out.drewN n
          have HW9 := Lib.hid (drawn_below HW8.out hd); clear hd
          have HR9 := Lib.hid hr9; clear hr9
          go_wp2_with fail
          refine (HSA.out _ _ _ HW9.out HR9.out).mono ?_
          rintro e w10 ⟨rfl, hd⟩
          have HW10 := Lib.hid (drawn_below HW9.out hd); clear hd
          go_wp2
          go_ret
          exact ⟨rfl, HW10.out⟩
        · obtain ⟨n, hn⟩ : ∃ n, n = rightP l := ⟨_, rfl⟩
          rw [← hn] at hr hr0
          have g4 : ((n : Int) != 0) = true := by rw [bne_iff_ne]; omega
          have HR := Lib.hid hr; clear hr hn hr0
          go_wp2_with fail
          refine (HR.out _ HW4.out).mono ?_
          rintro e w5 ⟨rfl, hb5⟩
          have HW5 := Lib.hid (HW4.out.trans (hb5.mono HW4.out.size)); clear hb5
          go_wp2
          go_ret
          exact ⟨rfl, HW5.out⟩
      · have g2 : (2000 : Int) < (t.size : Int) := by omega
        go_wp2_with fail
        refine (HL1.out _ HW2.out).mono ?_
        rintro e w3 ⟨rfl, hb3⟩
        have HW3 := Lib.hid (HW2.out.trans (hb3.mono HW2.out.size)); clear hb3
        go_wp2
        go_ret
        exact ⟨rfl, HW3.out⟩
    · have g1 : (2000 : Int) < (s.size : Int) := by omega
      go_wp2_with fail
      refine (HL1.out _ HW2.out).mono ?_
      rintro e w3 ⟨rfl, hb3⟩
      have HW3 := Lib.hid (HW2.out.trans (hb3.mono HW2.out.size)); clear hb3
      go_wp2
      go_ret
      exact ⟨rfl, HW3.out⟩
end

set_option maxRecDepth 100000 in
theorem labelsTold_contract (H : Type) (enc : TypeId × Value → H) (W : World) (base : Nat) (args : Array Value) (ds gs : List (DataW H)) (before : List MemPlace)
    (hval : ∀ (j : Nat) t v, Tryd.f9.params[j]? = some t → args[j]? = some v → Value.okWide Tryd.prog W .any base t v)
    (hW : DataW.Whole enc Tryd.prog Tryd.f9.params.toList Rows.labelsToldSpec.vars false W args.toList ds gs before) (hL : laidMetH Tryd.prog Rows.labelsToldRow.laid W) :
    Calls Tryd.prog 9 args W fun e W' => ∃ v, e = .returned v ∧ Rows.labelsToldSpec.post enc Tryd.prog Tryd.f9 false true false false W args v W' := by
  have hW' := hW
  obtain ⟨p, q, hA0, hV, rfl, hfz, hnd⟩ := hW
  have hA : DataW.TrodAll enc Tryd.prog W 0 (fun _ => true) true Tryd.f9.params.toList args.toList ds p := hA0
  rw [Tryd.params9] at hA hval
  obtain ⟨v0, vs0, d0, ds0, p0, q0, hargs, rfl, rfl, h0, r0⟩ := trodAll_cons hA
  obtain ⟨v1, vs1, d1, ds1, p1, q1, rfl, rfl, rfl, h1, r1⟩ := trodAll_cons r0
  obtain ⟨v2, vs2, d2, ds2, p2, q2, rfl, rfl, rfl, h2, r2⟩ := trodAll_cons r1
  obtain ⟨rfl, rfl, rfl⟩ := trodAll_nil r2
  obtain rfl : args = #[v0, v1, v2] := by cases args; simp_all
  obtain ⟨rfl, rfl⟩ := trodVars_none hV
  obtain ⟨A0, c0, l0, rfl, hm0, hx0, hs0⟩ := open_labels (hval 0 25 v0 rfl rfl) h0
  obtain ⟨s1, rfl, rfl, rfl, ws1⟩ := open_string Tryd.underlying9 (hval 1 9 v1 rfl rfl) h1
  obtain ⟨s2, rfl, rfl, rfl, ws2⟩ := open_string Tryd.underlying9 (hval 2 9 v2 rfl rfl) h2
  clear hA0 hA
  unfold maxLen at hm0 hs0
  unfold maxLen at ws1
  unfold maxLen at ws2
  refine (ltold_walk A0 c0 l0 s1 s2 W (tabs hL) hx0).mono fun e W' ⟨he, hg⟩ => ?_
  subst he
  exact ⟨_, rfl, law_end laidOut (by kernel_rfl) (by kernel_rfl) Tryd.underlying4 rfl hW' ⟨rfl, rfl, rfl⟩ hg⟩

theorem labelsTold_met (os : Os) : laidMet Tryd.prog Rows.labelsToldRow.laid ((laidWorld os).forCall (fun _ _ => 0) ⟨#[], #[.slice none 0 0, .string ⟨#[]⟩, .string ⟨#[]⟩], []⟩).memory :=
  laid_met os _
theorem labelsTold_reads (os : Os) {H : Type} (enc : TypeId × Value → H) : ∃ places, DataW.whole enc Tryd.prog ((laidWorld os).forCall (fun _ _ => 0) ⟨#[], #[.slice none 0 0, .string ⟨#[]⟩, .string ⟨#[]⟩], []⟩).memory Tryd.f9.params.toList Rows.labelsToldSpec.vars false (#[.slice none 0 0, .string ⟨#[]⟩, .string ⟨#[]⟩] : Array Value).toList 8 = some ([.nil, .lit (.string []), .lit (.string [])], [], places) :=
  ⟨[], by kernel_rfl⟩

set_option maxRecDepth 100000 in
theorem labelsTold_lifted (os : Os) (started : os.Started) (H : Type) (enc : TypeId × Value → H) (F : Stop.Interp) :
    ReturnsInHanded {} Tryd.checked os 9 .any ((OpenSpec.ofChange Rows.labelsToldSpec).preRow enc Tryd.prog Tryd.f9 Rows.labelsToldRow.domain false Rows.labelsToldRow.laid) (((OpenSpec.ofChange Rows.labelsToldSpec).at F).post enc Tryd.prog Tryd.f9 false true false false) := by
  obtain ⟨places, hx⟩ := labelsTold_reads os enc
  refine returnsInHanded_of_row (C := Tryd.checked) (s := OpenSpec.ofChange Rows.labelsToldSpec) ownKn started (by kernel_rfl) Tryd.func9
    (witness_row_at (enc := enc) (C := Tryd.checked) false (laidWorld os) #[.slice none 0 0, .string ⟨#[]⟩, .string ⟨#[]⟩] rfl (by kernel_rfl) (by kernel_rfl) (by kernel_rfl)
      (OpenSpec.preRow_of_cond 8 hx (by kernel_rfl) (fun k hk => by cases hk) (by kernel_rfl) (labelsTold_met os))) ?_
  intro W base args ds gs before hval hW _ _ _ hL _ _
  exact labelsTold_contract H enc W base args ds gs before hval hW hL

theorem labelsTold_said : Rows.LabelsToldSaid :=
  OpenClaim.holds_of_cond 9 Tryd.f9 rfl rfl rfl rfl rfl rfl rfl ⟨rfl, rfl, rfl, rfl, rfl⟩ rfl rfl rfl rfl rfl (by kernel_rfl) Tryd.func9 (by kernel_rfl)
    (of_decide_eq_true (by kernel_rfl)) (by unfold Func.isWrapper; first | (rw [if_pos (by decide +kernel)]; kernel_rfl) | (rw [if_neg (by decide +kernel)]; exact ⟨rfl, rfl⟩))
    (fun os started H enc _ F => by rw [OpenClaim.pre_eq_preRow]; exact labelsTold_lifted os started H enc F)

theorem labelsTold_plain (f : FuncId) (fn : Func) (hf : Tryd.pinned.checked.prog.funcNamed "manometer/manometerlaw05.LabelsTold" = some f) (hfn : Tryd.pinned.checked.prog.funcs[f]? = some fn) :
    false = Tryd.pinned.checked.prog.looks [] ∧ ∀ (j : Nat) t, fn.params[j]? = some t → Tryd.pinned.checked.prog.wantsStandIn t = false := by
  obtain rfl : f = 9 := Option.some.inj ((show Tryd.prog.funcNamed "manometer/manometerlaw05.LabelsTold" = some 9 by kernel_rfl).symm.trans hf) |>.symm
  obtain rfl : fn = Tryd.f9 := (Option.some.inj (Tryd.func9.symm.trans hfn)).symm
  refine ⟨by kernel_rfl, fun j t ht => ?_⟩
  rw [Tryd.params9] at ht
  have hm : t = 25 ∨ t = 9 ∨ t = 9 := by simpa using Array.mem_of_getElem? ht
  rcases hm with rfl | rfl | rfl
  · exact (show Tryd.prog.wantsStandIn 25 = false by kernel_rfl)
  · exact (show Tryd.prog.wantsStandIn 9 = false by kernel_rfl)
  · exact (show Tryd.prog.wantsStandIn 9 = false by kernel_rfl)

theorem labelsTold_card : Rows.LabelsToldCardSaid :=
  Claim7.holds_tied_plain_at .later [] _ _ _ _ labelsTold_said (fun _ h => by cases h) (by kernel_rfl) (fun _ h => by cases h) labelsTold_row_tie rfl ⟨rfl, rfl⟩ (by kernel_rfl) rfl labelsTold_plain (by kernel_rfl)
#print axioms labelsTold_card
end Go.Proofs.YtpdbpgebgjgbkaaDoor
