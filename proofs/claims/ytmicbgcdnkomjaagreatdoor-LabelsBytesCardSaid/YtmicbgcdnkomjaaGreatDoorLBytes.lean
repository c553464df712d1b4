/-
  LabelsBytes (P5.4): the bytes of any labels, and the labels that any bytes begin with, are what the plain answers say. The condition is the library's two tables': they hold what their initialisers lay, which the card ties to the program's text.
-/
import Derived.Test.YtmicbgcdnkomjaaGreatDoorLw
import Derived.Test.YtmicbgcdnkomjaaGreatDoorRte
import Derived.Test.YtmicbgcdnkomjaaGreatDoorRsz
import Derived.Test.YtmicbgcdnkomjaaGreatDoorSm0
import Derived.Test.YtmicbgcdnkomjaaGreatDoorEq
namespace Go.Proofs.YtmicbgcdnkomjaaGreatDoor
set_option linter.unusedVariables false
set_option linter.unusedSimpArgs false
open Go.ChangeShapes Go.WideShapes Go.ChangeAt Go.RowKit

section
set_option maxHeartbeats 3200000
set_option maxRecDepth 100000
theorem lbytes_walk (A B : Option Addr) (ca cb : Nat) (l : List Lb) (xs : Bs) (w : World) (hT : Tabs w) (ha : Rd w A (lcells l)) (hbx : Rd w B (xs.map Bv)) (hcb : xs.length ≤ cb) (hcm : cb ≤ 9223372036854775807) :
    Calls Tryz.prog 4 #[.slice A l.length ca, .slice B xs.length cb] w fun e w' => e = .returned (.bool true) ∧ Below w.heap.size w w' := by
  have HT := Lib.hid hT; clear hT
  have HA := Lib.hid ha
  have HB := Lib.hid hbx
  clear ha hbx
  have hlive := live_any w HT.out
  have HL := Lib.hid hlive; clear hlive
  go_enter Tryz.func4, Tryz.ntmps4
  go_wp2_with fail
  refine HL.out.mono ?_
  rintro e w1 ⟨rfl, hb1⟩
  have HW1 := Lib.hid hb1; clear hb1
  have hf := few_any A ca l w1 (HA.out.below HW1.out)
  have HL1 := Lib.hid (fun (W : World) (hb : Below w.heap.size w W) => live_any W (HT.out.below hb))
  cases hfa : fewB l with
  | false =>
    rw [hfa] at hf
    have HF := Lib.hid hf; clear hf hfa hcm
    go_wp2_with fail
    refine (HF.out).mono ?_
    rintro e w2 ⟨rfl, hb2⟩
    have HW2 := Lib.hid (HW1.out.trans (hb2.mono HW1.out.size)); clear hb2
    go_wp2_with fail
    refine (HL1.out _ HW2.out).mono ?_
    rintro e w3 ⟨rfl, hb3⟩
    have HW3 := Lib.hid (HW2.out.trans (hb3.mono HW2.out.size)); clear hb3
    go_wp2
    go_ret
    exact ⟨rfl, HW3.out⟩
  | true =>
    rw [hfa] at hf
    have HFA := Lib.hid (few_few hfa)
    have hl60 := (few_of hfa).1
    have HF := Lib.hid hf; clear hf hfa
    by_cases hx6 : xs.length ≤ 6000
    · have hx6' : ¬ (6000 : Int) < (xs.length : Int) := by omega
      have hpu := fun W (hw : Below w.heap.size w W) => put_bytes_any A ca l W (HT.out.below hw) (HA.out.below hw) HFA.out
      have hrp := fun W (hw : Below w.heap.size w W) => rput_bytes_any A ca l W (HA.out.below hw) HFA.out
      have hta := fun W (hw : Below w.heap.size w W) => take_any B cb xs.length xs W (HT.out.below hw) rfl (HB.out.below hw) hcb (by omega)
      have hrt := fun W (hw : Below w.heap.size w W) => rtake_any B cb xs W (HB.out.below hw) hcb (by omega) hcm
      obtain ⟨hsm1, h161, hle1⟩ := takeP_small xs
      have hpl : (bytesP l).2.length ≤ 140737488351232 := by
        unfold bytesP
        split
        · simp
        · simp only
          have h10 := pu_len 10 l.length (by omega)
          have hlb : ∀ m : List Lb, (∀ x ∈ m, x.1.size ≤ 6000 ∧ x.2.size ≤ 6000) → (labBytes m).length ≤ m.length * 20000 := by
            intro m
            induction m with
            | nil => intro _; simp [labBytes]
            | cons x r ih =>
              intro h
              obtain ⟨h1, h2⟩ := h x List.mem_cons_self
              have := ih (fun y hy => h y (List.mem_cons_of_mem _ hy))
              have a1 := pu_len 10 x.1.size (by omega)
              have a2 := pu_len 10 x.2.size (by omega)
              rw [labBytes_cons, List.length_append, List.length_append, sizedP_len, sizedP_len, List.length_cons]
              omega
          have := hlb l HFA.out.2
          rw [List.length_append]
          omega
      generalize takeP xs = T at hta hrt hsm1 h161 hle1
      obtain ⟨m, n, er⟩ := T
      generalize bytesP l = P at hpu hrp hpl
      obtain ⟨pe, p⟩ := P
      simp only at hsm1 h161 hle1 hpu hrp hpl
      have HPU := Lib.hid hpu; have HRP := Lib.hid hrp; have HTA := Lib.hid hta; have HRT := Lib.hid hrt; clear hpu hrp hta hrt hsm1 hcm
      have hpl2 : p.length ≤ 9223372036854775807 := by omega
      have HPL := Lib.hid hpl2; clear hpl hpl2
      go_wp2_with fail
      refine (HF.out).mono ?_
      rintro e w2 ⟨rfl, hb2⟩
      have HW2 := Lib.hid (HW1.out.trans (hb2.mono HW1.out.size)); clear hb2 HL1
      go_wp2_with fail
      refine (HPU.out _ HW2.out).mono ?_
      rintro e w3 ⟨A3, c3, rfl, ho3, hb3⟩
      obtain ⟨A3', c3', e3, hr3, -⟩ := own_rd ho3
      injection e3 with e3 _ _
      subst e3
      have HW3 := Lib.hid (HW2.out.trans (hb3.mono HW2.out.size))
      have HR3 := Lib.hid hr3; clear hb3 ho3 hr3
      go_wp2_with fail
      refine (HRP.out _ HW3.out).mono ?_
      rintro e w4 ⟨A4, c4, rfl, hr4, hb4⟩
      simp only at hr4 ⊢
      have HW4 := Lib.hid (HW3.out.trans (hb4.mono HW3.out.size))
      have HR3' := Lib.hid (HR3.out.below hb4)
      have HR4 := Lib.hid hr4; clear hb4 hr4 HR3
      go_wp2_with fail
      refine (HTA.out _ HW4.out).mono ?_
      rintro e w5 ⟨A5, c5, rfl, hr5, hb5⟩
      simp only at hr5 ⊢
      have HW5 := Lib.hid (HW4.out.trans (hb5.mono HW4.out.size))
      have HR35 := Lib.hid (HR3'.out.below hb5)
      have HR45 := Lib.hid (HR4.out.below hb5)
      have HR5 := Lib.hid hr5; clear hb5 hr5 HR3' HR4
      go_wp2_with fail
      refine (HRT.out _ HW5.out).mono ?_
      rintro e w6 ⟨A6, c6, rfl, hr6, hb6⟩
      simp only at hr6 ⊢
      have HW6 := Lib.hid (HW5.out.trans (hb6.mono HW5.out.size))
      have HR36 := Lib.hid (HR35.out.below hb6)
      have HR46 := Lib.hid (HR45.out.below hb6)
      have HR56 := Lib.hid (HR5.out.below hb6)
      have HR6 := Lib.hid hr6; clear hb6 hr6 HR35 HR45 HR5
      have heq := fun c c' => equal_any A3 A4 c c' p p w6 HR36.out HR46.out HPL.out HPL.out
      simp only [decide_true] at heq
      have HEQ := Lib.hid heq; clear heq
      go_wp2_with fail
      refine (HEQ.out _ _).mono ?_
      rintro e w7 ⟨rfl, hd⟩
      have hr57 : Rd w7 A5 (lcells m) := by obtain ⟨n, rfl⟩ := hd; exact HR56.out.drewN n
      have hr67 : Rd w7 A6 (lcells m) := by obtain ⟨n, rfl⟩ := hd; exact HR6.out.drewN n
      have HW7 := Lib.hid (drawn_below HW6.out hd); clear hd
      have hs := fun c c' => rsame_any A5 A6 c c' m m w7 hr57 hr67 (by omega) (by omega)
      simp only [decide_true] at hs
      have HS := Lib.hid hs; clear hs hr57 hr67
      go_wp2_with fail
      refine (HS.out _ _).mono ?_
      rintro e w8 ⟨rfl, hd⟩
      have HW8 := Lib.hid (drawn_below HW7.out hd); clear hd
      go_wp2
      go_ret
      exact ⟨by simp, HW8.out⟩
    · have hx6' : (6000 : Int) < (xs.length : Int) := by omega
      clear hcm
      go_wp2_with fail
      refine (HF.out).mono ?_
      rintro e w2 ⟨rfl, hb2⟩
      have HW2 := Lib.hid (HW1.out.trans (hb2.mono HW1.out.size)); clear hb2
      go_wp2_with fail
      refine (HL1.out _ HW2.out).mono ?_
      rintro e w3 ⟨rfl, hb3⟩
      have HW3 := Lib.hid (HW2.out.trans (hb3.mono HW2.out.size)); clear hb3
      go_wp2
      go_ret
      exact ⟨rfl, HW3.out⟩
end

set_option maxRecDepth 100000 in
theorem labelsBytes_contract (H : Type) (enc : TypeId × Value → H) (W : World) (base : Nat) (args : Array Value) (ds gs : List (DataW H)) (before : List MemPlace)
    (hval : ∀ (j : Nat) t v, Tryz.f4.params[j]? = some t → args[j]? = some v → Value.okWide Tryz.prog W .any base t v)
    (hW : DataW.Whole enc Tryz.prog Tryz.f4.params.toList Rows.labelsBytesSpec.vars false W args.toList ds gs before) (hL : laidMetH Tryz.prog Rows.labelsBytesRow.laid W) :
    Calls Tryz.prog 4 args W fun e W' => ∃ v, e = .returned v ∧ Rows.labelsBytesSpec.post enc Tryz.prog Tryz.f4 false true false false W args v W' := by
  have hW' := hW
  obtain ⟨p, q, hA0, hV, rfl, hfz, hnd⟩ := hW
  have hA : DataW.TrodAll enc Tryz.prog W 0 (fun _ => true) true Tryz.f4.params.toList args.toList ds p := hA0
  rw [Tryz.params4] at hA hval
  obtain ⟨v0, vs0, d0, ds0, p0, q0, hargs, rfl, rfl, h0, r0⟩ := trodAll_cons hA
  obtain ⟨v1, vs1, d1, ds1, p1, q1, rfl, rfl, rfl, h1, r1⟩ := trodAll_cons r0
  obtain ⟨rfl, rfl, rfl⟩ := trodAll_nil r1
  obtain rfl : args = #[v0, v1] := by cases args; simp_all
  obtain ⟨rfl, rfl⟩ := trodVars_none hV
  obtain ⟨A0, c0, l0, rfl, hm0, hx0, hs0⟩ := open_labels (hval 0 23 v0 rfl rfl) h0
  obtain ⟨A1, c1, xs1, rfl, hm1, hx1⟩ := open_bytes Tryz.underlying37 Tryz.underlying5 (by kernel_rfl) (hval 1 37 v1 rfl rfl) h1
  clear hA0 hA
  unfold maxLen at hm0 hs0
  unfold maxLen at hm1
  refine (lbytes_walk A0 A1 c0 c1 l0 xs1 W (tabs hL) hx0 hx1 hm1.1 hm1.2).mono fun e W' ⟨he, hg⟩ => ?_
  subst he
  exact ⟨_, rfl, law_end laidOut (by kernel_rfl) (by kernel_rfl) Tryz.underlying4 rfl hW' ⟨rfl, rfl, rfl⟩ hg⟩

theorem labelsBytes_met (os : Os) : laidMet Tryz.prog Rows.labelsBytesRow.laid ((laidWorld os).forCall (fun _ _ => 0) ⟨#[], #[.slice none 0 0, .slice none 0 0], []⟩).memory :=
  laid_met os _
theorem labelsBytes_reads (os : Os) {H : Type} (enc : TypeId × Value → H) : ∃ places, DataW.whole enc Tryz.prog ((laidWorld os).forCall (fun _ _ => 0) ⟨#[], #[.slice none 0 0, .slice none 0 0], []⟩).memory Tryz.f4.params.toList Rows.labelsBytesSpec.vars false (#[.slice none 0 0, .slice none 0 0] : Array Value).toList 8 = some ([.nil, .nil], [], places) :=
  ⟨[], by kernel_rfl⟩

set_option maxRecDepth 100000 in
theorem labelsBytes_lifted (os : Os) (started : os.Started) (H : Type) (enc : TypeId × Value → H) (F : Stop.Interp) :
    ReturnsInHanded {} Tryz.checked os 4 .any ((OpenSpec.ofChange Rows.labelsBytesSpec).preRow enc Tryz.prog Tryz.f4 Rows.labelsBytesRow.domain false Rows.labelsBytesRow.laid) (((OpenSpec.ofChange Rows.labelsBytesSpec).at F).post enc Tryz.prog Tryz.f4 false true false false) := by
  obtain ⟨places, hx⟩ := labelsBytes_reads os enc
  refine returnsInHanded_of_row (C := Tryz.checked) (s := OpenSpec.ofChange Rows.labelsBytesSpec) ownKn started (by kernel_rfl) Tryz.func4
    (witness_row_at (enc := enc) (C := Tryz.checked) false (laidWorld os) #[.slice none 0 0, .slice none 0 0] rfl (by kernel_rfl) (by kernel_rfl) (by kernel_rfl)
      (OpenSpec.preRow_of_cond 8 hx (by kernel_rfl) (fun k hk => by cases hk) (by kernel_rfl) (labelsBytes_met os))) ?_
  intro W base args ds gs before hval hW _ _ _ hL _ _
  exact labelsBytes_contract H enc W base args ds gs before hval hW hL

theorem labelsBytes_said : Rows.LabelsBytesSaid :=
  OpenClaim.holds_of_cond 4 Tryz.f4 rfl rfl rfl rfl rfl rfl rfl ⟨rfl, rfl, rfl, rfl, rfl⟩ rfl rfl rfl rfl rfl (by kernel_rfl) Tryz.func4 (by kernel_rfl)
    (of_decide_eq_true (by kernel_rfl)) (by unfold Func.isWrapper; first | (rw [if_pos (by decide +kernel)]; kernel_rfl) | (rw [if_neg (by decide +kernel)]; exact ⟨rfl, rfl⟩))
    (fun os started H enc _ F => by rw [OpenClaim.pre_eq_preRow]; exact labelsBytes_lifted os started H enc F)

theorem labelsBytes_plain (f : FuncId) (fn : Func) (hf : Tryz.pinned.checked.prog.funcNamed "manometer/manometerlaw05.LabelsBytes" = some f) (hfn : Tryz.pinned.checked.prog.funcs[f]? = some fn) :
    false = Tryz.pinned.checked.prog.looks [] ∧ ∀ (j : Nat) t, fn.params[j]? = some t → Tryz.pinned.checked.prog.wantsStandIn t = false := by
  obtain rfl : f = 4 := Option.some.inj ((show Tryz.prog.funcNamed "manometer/manometerlaw05.LabelsBytes" = some 4 by kernel_rfl).symm.trans hf) |>.symm
  obtain rfl : fn = Tryz.f4 := (Option.some.inj (Tryz.func4.symm.trans hfn)).symm
  refine ⟨by kernel_rfl, fun j t ht => ?_⟩
  rw [Tryz.params4] at ht
  have hm : t = 23 ∨ t = 37 := by simpa using Array.mem_of_getElem? ht
  rcases hm with rfl | rfl
  · exact (show Tryz.prog.wantsStandIn 23 = false by kernel_rfl)
  · exact (show Tryz.prog.wantsStandIn 37 = false by kernel_rfl)

theorem labelsBytes_card : Rows.LabelsBytesCardSaid :=
  Claim7.holds_tied_plain_at .later [] _ _ _ _ labelsBytes_said (fun _ h => by cases h) (by kernel_rfl) (fun _ h => by cases h) labelsBytes_row_tie rfl ⟨rfl, rfl⟩ (by kernel_rfl) rfl labelsBytes_plain (by kernel_rfl)
#print axioms labelsBytes_card
end Go.Proofs.YtmicbgcdnkomjaaGreatDoor
