/-
  HashLetters (P3.3): any bytes as letters and as digits, and the bytes of any text of these, are what the plain answers say. The condition is the table's: it holds what its initialiser lays, which the card ties to the program's text.
-/
import Derived.Test.YtmgjlldccmgpcaaDoorHt
import Derived.Test.YtmgjlldccmgpcaaDoorHq
import Derived.Test.YtmgjlldccmgpcaaDoorUx
import Derived.Test.YtmgjlldccmgpcaaDoorRun
import Derived.Test.YtmgjlldccmgpcaaDoorRux
import Derived.Test.YtmgjlldccmgpcaaDoorEq
namespace Go.Proofs.YtmgjlldccmgpcaaDoor
set_option linter.unusedVariables false
set_option linter.unusedSimpArgs false
open Go.ChangeMaps (open_string)
open Go.ChangeShapes Go.WideShapes Go.ChangeAt Go.RowKit

theorem drawn_below {B : Nat} {w w1 w2 : World} (h : RowKit.Below B w w1) (hd : ∃ n, w2 = w1.drewN n) : RowKit.Below B w w2 := by
  obtain ⟨n, rfl⟩ := hd
  exact below_drewN h n
theorem un_len (w : Nat) (f : UInt8 → Nat) (s : ByteArray) (hw : w ≤ 8) : (unP w f (bl s)).2.length ≤ s.size := by
  unfold unP; split
  · split
    · simp
    · simp only
      rw [bytesN_len, unBits_length, bl_len]
      have : w * s.size ≤ 8 * s.size := Nat.mul_le_mul_right _ hw
      omega
  · simp
section
set_option maxHeartbeats 3200000
set_option maxRecDepth 100000
theorem hlet_walk (A : Option Addr) (ca : Nat) (xs : List UInt8) (s : ByteArray) (w : World) (ht : AddsMet w) (hx : Rd w A (xs.map Bv)) (hlc : xs.length ≤ ca) (hcm : ca ≤ 9223372036854775807) :
    Calls Tryd.prog 8 #[.slice A xs.length ca, .string s] w fun e w' => e = .returned (.bool true) ∧ Below w.heap.size w w' := by
  have HT := Lib.hid ht; clear ht
  have HX := Lib.hid hx; clear hx
  have HL1 := Lib.hid (fun (W : World) (hb : Below w.heap.size w W) => live_any W (HT.out.below hb))
  have hsh := fun W (hw : Below w.heap.size w W) => short_any (W.alloc (.cells #[.slice A xs.length ca] 28)) (some ⟨W.heap.size, 0, none⟩) 1 1 [(A, ca, xs)] rfl (parts_one W A ca xs.length xs rfl (HX.out.below hw) hlc hcm).row (by decide)
  have hshs := @shortB_spec [(A, ca, xs)]
  generalize shortB [(A, ca, xs)] = SB at hsh hshs
  have HSH := Lib.hid hsh; have HSS := Lib.hid hshs; clear hsh hshs hcm
  go_enter Tryd.func8, Tryd.ntmps8
  go_wp2_with fail
  refine (HL1.out w (RowKit.Below.refl _ _)).mono ?_
  rintro e w1 ⟨rfl, hb1⟩
  have HW1 := Lib.hid hb1; clear hb1
  have hs1 := HSH.out w1 HW1.out
  have HS1 := Lib.hid hs1; clear hs1 HSH
  have hb1' := HW1.out.alloc HW1.out.size (.cells #[.slice A xs.length ca] 28)
  have HB1 := Lib.hid hb1'; clear hb1'
  go_wp2_with fail
  refine HS1.out.mono ?_
  rintro e w2 ⟨rfl, rfl⟩
  generalize w1.alloc (.cells #[.slice A xs.length ca] 28) = w2 at *
  cases SB with
  | false =>
    clear HSS
    go_wp2_with fail
    refine (HL1.out _ HB1.out).mono ?_
    rintro e w3 ⟨rfl, hb3⟩
    have HW3 := Lib.hid (HB1.out.trans (hb3.mono HB1.out.size)); clear hb3
    go_wp2
    go_ret
    exact ⟨rfl, HW3.out⟩
  | true =>
    by_cases h2000 : s.size ≤ 2000
    · have h2000' : ¬ (2000 : Int) < (s.size : Int) := by omega
      have hx2 : xs.length ≤ 2000 := (HSS.out rfl).1 (A, ca, xs) (by simp)
      clear HSS HL1 HS1
      have a1 := fun W (hw : Below w.heap.size w W) => armor_any W A ca xs.length xs rfl (HX.out.below hw) (by omega)
      have a2 := fun W (hw : Below w.heap.size w W) => hex_any W A ca xs.length xs rfl (HX.out.below hw) (by omega)
      have a3 := fun W (hw : Below w.heap.size w W) => rarmor_any W A ca xs.length xs rfl (HX.out.below hw) (by omega)
      have a4 := fun W (hw : Below w.heap.size w W) => rhex_any W A ca xs.length xs rfl (HX.out.below hw) (by omega)
      rw [← hexS_eq xs] at a4
      generalize (⟨(armS 6 armL xs).toArray⟩ : ByteArray) = SA at *
      generalize (⟨(armS 4 hexL xs).toArray⟩ : ByteArray) = SH at *
      have t1 := fun W => unarmor_any s W (by omega)
      have t2 := fun W => unhex_any s W (by omega)
      have t3 := fun W => runarmor_any s W (by omega)
      have t4 := fun W => runhex_any s W (by omega)
      have l1 := un_len 6 armV s (by decide)
      have l2 := un_len 4 hexV s (by decide)
      generalize unP 6 armV (bl s) = R1 at *
      generalize unP 4 hexV (bl s) = R2 at *
      obtain ⟨e1, v1⟩ := R1
      obtain ⟨e2, v2⟩ := R2
      simp only at l1 l2
      have A1 := Lib.hid a1; have A2 := Lib.hid a2; have A3 := Lib.hid a3; have A4 := Lib.hid a4; have T1 := Lib.hid t1; have T2 := Lib.hid t2; have T3 := Lib.hid t3; have T4 := Lib.hid t4
      clear a1 a2 a3 a4 t1 t2 t3 t4
      go_wp2_with fail
      refine (T1.out _).mono ?_
      rintro e w3 ⟨C3, c3, rfl, hr3, hb3⟩
      simp only at hr3 ⊢
      have HW3 := Lib.hid (HB1.out.trans (hb3.mono HB1.out.size))
      have HR3 := Lib.hid hr3; clear hb3 hr3
      go_wp2_with fail
      refine (T3.out _).mono ?_
      rintro e w4 ⟨C4, c4, rfl, hr4, hb4⟩
      simp only at hr4 ⊢
      have HW4 := Lib.hid (HW3.out.trans (hb4.mono HW3.out.size))
      have HR34 := Lib.hid (HR3.out.below hb4); have HR4 := Lib.hid hr4; clear hb4 hr4 HR3
      go_wp2_with fail
      refine (T2.out _).mono ?_
      rintro e w5 ⟨C5, c5, rfl, hr5, hb5⟩
      simp only at hr5 ⊢
      have HW5 := Lib.hid (HW4.out.trans (hb5.mono HW4.out.size))
      have HR35 := Lib.hid (HR34.out.below hb5); have HR45 := Lib.hid (HR4.out.below hb5); have HR5 := Lib.hid hr5; clear hb5 hr5 HR34 HR4
      go_wp2_with fail
      refine (T4.out _).mono ?_
      rintro e w6 ⟨C6, c6, rfl, hr6, hb6⟩
      simp only at hr6 ⊢
      have HW6 := Lib.hid (HW5.out.trans (hb6.mono HW5.out.size))
      have HR36 := Lib.hid (HR35.out.below hb6); have HR46 := Lib.hid (HR45.out.below hb6); have HR56 := Lib.hid (HR5.out.below hb6); have HR6 := Lib.hid hr6; clear hb6 hr6 HR35 HR45 HR5
      go_wp2_with fail
      refine (A1.out _ HW6.out).mono ?_
      rintro e w7 ⟨rfl, hb7⟩
      have HW7 := Lib.hid (HW6.out.trans (hb7.mono HW6.out.size))
      have HR37 := Lib.hid (HR36.out.below hb7); have HR47 := Lib.hid (HR46.out.below hb7); have HR57 := Lib.hid (HR56.out.below hb7); have HR67 := Lib.hid (HR6.out.below hb7); clear hb7 HR36 HR46 HR56 HR6
      go_wp2_with fail
      refine (A3.out _ HW7.out).mono ?_
      rintro e w8 ⟨rfl, hb8⟩
      have HW8 := Lib.hid (HW7.out.trans (hb8.mono HW7.out.size))
      have HR38 := Lib.hid (HR37.out.below hb8); have HR48 := Lib.hid (HR47.out.below hb8); have HR58 := Lib.hid (HR57.out.below hb8); have HR68 := Lib.hid (HR67.out.below hb8); clear hb8 HR37 HR47 HR57 HR67
      go_wp2_with fail
      refine (A2.out _ HW8.out).mono ?_
      rintro e w9 ⟨rfl, hb9⟩
      have HW9 := Lib.hid (HW8.out.trans (hb9.mono HW8.out.size))
      have HR39 := Lib.hid (HR38.out.below hb9); have HR49 := Lib.hid (HR48.out.below hb9); have HR59 := Lib.hid (HR58.out.below hb9); have HR69 := Lib.hid (HR68.out.below hb9); clear hb9 HR38 HR48 HR58 HR68
      go_wp2_with fail
      refine (A4.out _ HW9.out).mono ?_
      rintro e wA ⟨rfl, nA, rfl⟩
      have q1 := fun c c' => equal_any C3 C4 c c' v1 v1 (w9.drewN nA) (HR39.out.drewN nA) (HR49.out.drewN nA) (by omega) (by omega)
      simp only [decide_true] at q1
      have Q1 := Lib.hid q1
      have HR5A := Lib.hid (HR59.out.drewN nA); have HR6A := Lib.hid (HR69.out.drewN nA)
      have HWA := Lib.hid (below_drewN HW9.out nA); clear q1 HR39 HR49 HR59 HR69
      generalize w9.drewN nA = wA at Q1 HR5A HR6A HWA ⊢
      go_wp2_with fail
      refine (Q1.out _ _).mono ?_
      rintro e wB ⟨rfl, nB, rfl⟩
      have q2 := fun c c' => equal_any C5 C6 c c' v2 v2 (wA.drewN nB) (HR5A.out.drewN nB) (HR6A.out.drewN nB) (by omega) (by omega)
      simp only [decide_true] at q2
      have Q2 := Lib.hid q2
      have HWB := Lib.hid (below_drewN HWA.out nB); clear q2 HR5A HR6A
      generalize wA.drewN nB = wB at Q2 HWB ⊢
      go_wp2_with fail
      refine (Q2.out _ _).mono ?_
      rintro e wC ⟨rfl, hd⟩
      have HWC := Lib.hid (drawn_below HWB.out hd); clear hd
      go_wp2
      go_ret
      exact ⟨by simp, HWC.out⟩
    · have h2000' : (2000 : Int) < (s.size : Int) := by omega
      clear HSS
      go_wp2_with fail
      refine (HL1.out _ HB1.out).mono ?_
      rintro e w3 ⟨rfl, hb3⟩
      have HW3 := Lib.hid (HB1.out.trans (hb3.mono HB1.out.size)); clear hb3
      go_wp2
      go_ret
      exact ⟨rfl, HW3.out⟩
end

set_option maxRecDepth 100000 in
theorem hashLetters_contract (H : Type) (enc : TypeId × Value → H) (W : World) (base : Nat) (args : Array Value) (ds gs : List (DataW H)) (before : List MemPlace)
    (hval : ∀ (j : Nat) t v, Tryd.f8.params[j]? = some t → args[j]? = some v → Value.okWide Tryd.prog W .any base t v)
    (hW : DataW.Whole enc Tryd.prog Tryd.f8.params.toList Rows.hashLettersSpec.vars false W args.toList ds gs before) (hL : laidMetH Tryd.prog Rows.hashLettersRow.laid W) :
    Calls Tryd.prog 8 args W fun e W' => ∃ v, e = .returned v ∧ Rows.hashLettersSpec.post enc Tryd.prog Tryd.f8 false true false false W args v W' := by
  have hW' := hW
  obtain ⟨p, q, hA0, hV, rfl, hfz, hnd⟩ := hW
  have hA : DataW.TrodAll enc Tryd.prog W 0 (fun _ => true) true Tryd.f8.params.toList args.toList ds p := hA0
  rw [Tryd.params8] at hA hval
  obtain ⟨v0, vs0, d0, ds0, p0, q0, hargs, rfl, rfl, h0, r0⟩ := trodAll_cons hA
  obtain ⟨v1, vs1, d1, ds1, p1, q1, rfl, rfl, rfl, h1, r1⟩ := trodAll_cons r0
  obtain ⟨rfl, rfl, rfl⟩ := trodAll_nil r1
  obtain rfl : args = #[v0, v1] := by cases args; simp_all
  obtain ⟨rfl, rfl⟩ := trodVars_none hV
  obtain ⟨A0, c0, xs0, rfl, hm0, hx0⟩ := open_bytes Tryd.underlying28 Tryd.underlying5 (by kernel_rfl) (hval 0 28 v0 rfl rfl) h0
  obtain ⟨s1, rfl, rfl, rfl, ws1⟩ := open_string Tryd.underlying9 (hval 1 9 v1 rfl rfl) h1
  clear hA0 hA
  unfold maxLen at hm0
  unfold maxLen at ws1
  refine (hlet_walk A0 c0 xs0 s1 W (table hL) hx0 hm0.1 hm0.2).mono fun e W' ⟨he, hg⟩ => ?_
  subst he
  exact ⟨_, rfl, law_end laidOut (by kernel_rfl) (by kernel_rfl) Tryd.underlying4 rfl hW' ⟨rfl, rfl, rfl⟩ hg⟩

theorem hashLetters_met (os : Os) : laidMet Tryd.prog Rows.hashLettersRow.laid ((laidWorld os).forCall (fun _ _ => 0) ⟨#[], #[.slice none 0 0, .string ⟨#[]⟩], []⟩).memory :=
  laidMet_of_run' 8 (by kernel_rfl) (by kernel_rfl)
theorem hashLetters_reads (os : Os) {H : Type} (enc : TypeId × Value → H) : ∃ places, DataW.whole enc Tryd.prog ((laidWorld os).forCall (fun _ _ => 0) ⟨#[], #[.slice none 0 0, .string ⟨#[]⟩], []⟩).memory Tryd.f8.params.toList Rows.hashLettersSpec.vars false (#[.slice none 0 0, .string ⟨#[]⟩] : Array Value).toList 8 = some ([.nil, .lit (.string [])], [], places) :=
  ⟨[], by kernel_rfl⟩

set_option maxRecDepth 100000 in
theorem hashLetters_lifted (os : Os) (started : os.Started) (H : Type) (enc : TypeId × Value → H) (F : Stop.Interp) :
    ReturnsInHanded {} Tryd.checked os 8 .any ((OpenSpec.ofChange Rows.hashLettersSpec).preRow enc Tryd.prog Tryd.f8 Rows.hashLettersRow.domain false Rows.hashLettersRow.laid) (((OpenSpec.ofChange Rows.hashLettersSpec).at F).post enc Tryd.prog Tryd.f8 false true false false) := by
  obtain ⟨places, hx⟩ := hashLetters_reads os enc
  refine returnsInHanded_of_row (C := Tryd.checked) (s := OpenSpec.ofChange Rows.hashLettersSpec) ownKn started (by kernel_rfl) Tryd.func8
    (witness_row_at (enc := enc) (C := Tryd.checked) false (laidWorld os) #[.slice none 0 0, .string ⟨#[]⟩] rfl (by kernel_rfl) (by kernel_rfl) (by kernel_rfl)
      (OpenSpec.preRow_of_cond 8 hx (by kernel_rfl) (fun k hk => by cases hk) (by kernel_rfl) (hashLetters_met os))) ?_
  intro W base args ds gs before hval hW _ _ _ hL _ _
  exact hashLetters_contract H enc W base args ds gs before hval hW hL

theorem hashLetters_said : Rows.HashLettersSaid :=
  OpenClaim.holds_of_cond 8 Tryd.f8 rfl rfl rfl rfl rfl rfl rfl ⟨rfl, rfl, rfl, rfl, rfl⟩ rfl rfl rfl rfl rfl (by kernel_rfl) Tryd.func8 (by kernel_rfl)
    (of_decide_eq_true (by kernel_rfl)) (by unfold Func.isWrapper; first | (rw [if_pos (by decide +kernel)]; kernel_rfl) | (rw [if_neg (by decide +kernel)]; exact ⟨rfl, rfl⟩))
    (fun os started H enc _ F => by rw [OpenClaim.pre_eq_preRow]; exact hashLetters_lifted os started H enc F)

theorem hashLetters_plain (f : FuncId) (fn : Func) (hf : Tryd.pinned.checked.prog.funcNamed "manometer/manometerlaw03.HashLetters" = some f) (hfn : Tryd.pinned.checked.prog.funcs[f]? = some fn) :
    false = Tryd.pinned.checked.prog.looks [] ∧ ∀ (j : Nat) t, fn.params[j]? = some t → Tryd.pinned.checked.prog.wantsStandIn t = false := by
  obtain rfl : f = 8 := Option.some.inj ((show Tryd.prog.funcNamed "manometer/manometerlaw03.HashLetters" = some 8 by kernel_rfl).symm.trans hf) |>.symm
  obtain rfl : fn = Tryd.f8 := (Option.some.inj (Tryd.func8.symm.trans hfn)).symm
  refine ⟨by kernel_rfl, fun j t ht => ?_⟩
  rw [Tryd.params8] at ht
  have hm : t = 28 ∨ t = 9 := by simpa using Array.mem_of_getElem? ht
  rcases hm with rfl | rfl
  · exact (show Tryd.prog.wantsStandIn 28 = false by kernel_rfl)
  · exact (show Tryd.prog.wantsStandIn 9 = false by kernel_rfl)

theorem hashLetters_card : Rows.HashLettersCardSaid :=
  Claim7.holds_tied_plain_at .later [] _ _ _ _ hashLetters_said (fun _ h => by cases h) (by kernel_rfl) (fun _ h => by cases h) hashLetters_row_tie rfl ⟨rfl, rfl⟩ (by kernel_rfl) rfl hashLetters_plain (by kernel_rfl)
#print axioms hashLetters_card
end Go.Proofs.YtmgjlldccmgpcaaDoor
