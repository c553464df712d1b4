/-
  FramePuts (P2.3): for every bytes the frame, or the error, is the plain answers', and for every number how many bytes a frame of so many has. The condition is the table's: it holds what its initialiser lays, which the card ties to the program's text.
-/
import Derived.Test.YtnbgpmgcnfhfeaaDoorFt
import Derived.Test.YtnbgpmgcnfhfeaaDoorFq
import Derived.Test.YtnbgpmgcnfhfeaaDoorEq
namespace Go.Proofs.YtnbgpmgcnfhfeaaDoor
set_option linter.unusedVariables false
set_option linter.unusedSimpArgs false
open Go.ChangeShapes Go.WideShapes Go.ChangeAt Go.RowKit

section
set_option maxHeartbeats 1600000
set_option maxRecDepth 100000
theorem fputs_walk (A : Option Addr) (ca : Nat) (xs : List UInt8) (n : Int) (w : World) (ht : StepsMet w) (hx : Rd w A (xs.map Bv)) (hlx : xs.length ≤ 9223372036854775807) :
    Calls Tryd.prog 5 #[.slice A xs.length ca, .int .i64 n] w fun e w' => e = .returned (.bool true) ∧ Below w.heap.size w w' := by
  have HT := Lib.hid ht; clear ht
  go_enter Tryd.func5, Tryd.ntmps5
  go_wp2_with fail
  refine (live_any _ HT.out).mono ?_
  rintro e w1 ⟨rfl, hb1⟩
  have hx1 := hx.below hb1
  have HT1 := Lib.hid (HT.out.below hb1)
  clear hx HT
  by_cases h1 : (xs.length : Int) ≤ 4000
  · go_wp2_with fail
    refine (fput_any A ca xs w1 HT1.out hx1 (by omega)).mono ?_
    rintro e w2 ⟨v2, rfl, own2, hb2⟩
    obtain ⟨A2, c2, rfl, rd2, -⟩ := own_rd own2
    have hx2 := hx1.below hb2
    have hb2' := hb1.trans (hb2.mono hb1.size)
    clear own2 hx1 hb1 hb2 HT1
    have hfl := frameF_length xs
    have hpl := pu_len 10 xs.length (by omega)
    have hfm : (frameF xs).length ≤ 9223372036854775807 := by omega
    clear hfl hpl
    obtain ⟨fr, hfr⟩ : ∃ fr, fr = frameF xs := ⟨_, rfl⟩
    rw [← hfr] at rd2 hfm ⊢
    have HFR := Lib.hid hfr; clear hfr
    go_wp2_with fail
    refine (frput_any A ca xs w2 hx2 (by omega)).mono ?_
    rintro e w3 ⟨C, cc, rfl, rd3, hb3⟩
    rw [← HFR.out] at rd3 ⊢
    have rd2' := rd2.below hb3
    have hb3' := hb2'.trans (hb3.mono hb2'.size)
    clear rd2 hx2 hb2' hb3 HFR
    go_wp2_with fail
    refine (equal_yes A2 C c2 cc _ _ fr fr w3 rfl rfl rfl rd2' rd3 hfm).mono ?_
    rintro e w4 ⟨rfl, nn, rfl⟩
    have hb4 := below_drewN hb3' nn
    generalize w3.drewN nn = w4 at *
    clear rd2' rd3 hb3'
    go_wp2_with fail
    refine (size_any n w4).mono ?_
    rintro e w5 ⟨rfl, hb5⟩
    have hb5' := hb4.trans (hb5.mono hb4.size)
    clear hb4 hb5
    go_wp2_with fail
    refine (rsize_any n w5).mono ?_
    rintro e w6 ⟨rfl, hb6⟩
    have hb6' := hb5'.trans (hb6.mono hb5'.size)
    generalize sizeF n = z
    go_wp2
    go_ret
    exact ⟨rfl, hb6'⟩
  · by_cases h2 : (xs.length : Int) ≤ 1048576
    · have h1' : decide (4000 < (xs.length : Int)) = true := by simp; omega
      clear h1
      go_wp2_with fail
      refine (live_any _ HT1.out).mono ?_
      rintro e w2 ⟨rfl, hb2⟩
      go_wp2
      go_ret
      exact ⟨rfl, hb1.trans (hb2.mono hb1.size)⟩
    · have h1' : decide (4000 < (xs.length : Int)) = true := by simp; omega
      have h2' : decide ((xs.length : Int) ≤ 1048576) = false := by simp; omega
      have hlong : 1048576 < xs.length := by omega
      clear h1 h2
      go_wp2_with fail
      refine (fput_long A ca xs.length w1 hlong hlx).mono ?_
      rintro e w2 ⟨rfl, rfl⟩
      go_wp2_with fail
      refine (rput_long A ca xs.length w1 hlong hlx).mono ?_
      rintro e w2 ⟨rfl, rfl⟩
      go_wp2_with fail
      refine (equal_yes none none 0 0 0 0 [] [] w1 rfl rfl rfl (Rd.nil _ _) (Rd.nil _ _) (by decide)).mono ?_
      rintro e w4 ⟨rfl, nn, rfl⟩
      have hb4 := below_drewN hb1 nn
      generalize w1.drewN nn = w4 at *
      clear hb1
      go_wp2_with fail
      refine (size_any n w4).mono ?_
      rintro e w5 ⟨rfl, hb5⟩
      have hb5' := hb4.trans (hb5.mono hb4.size)
      clear hb4 hb5
      go_wp2_with fail
      refine (rsize_any n w5).mono ?_
      rintro e w6 ⟨rfl, hb6⟩
      have hb6' := hb5'.trans (hb6.mono hb5'.size)
      generalize sizeF n = z
      go_wp2
      go_ret
      exact ⟨rfl, hb6'⟩

theorem framePuts_contract (H : Type) (enc : TypeId × Value → H) (W : World) (base : Nat) (args : Array Value) (ds gs : List (DataW H)) (before : List MemPlace)
    (hval : ∀ (j : Nat) t v, Tryd.f5.params[j]? = some t → args[j]? = some v → Value.okWide Tryd.prog W .any base t v)
    (hW : DataW.Whole enc Tryd.prog Tryd.f5.params.toList Rows.framePutsSpec.vars false W args.toList ds gs before) (hL : laidMetH Tryd.prog Rows.framePutsRow.laid W) :
    Calls Tryd.prog 5 args W fun e W' => ∃ v, e = .returned v ∧ Rows.framePutsSpec.post enc Tryd.prog Tryd.f5 false true false false W args v W' := by
  have hW' := hW
  obtain ⟨p, q, hA0, hV, rfl, hfz, hnd⟩ := hW
  have hA : DataW.TrodAll enc Tryd.prog W 0 (fun _ => true) true Tryd.f5.params.toList args.toList ds p := hA0
  rw [Tryd.params5] at hA hval
  obtain ⟨v0, vs0, d0, ds0, p0, q0, hargs, rfl, rfl, h0, r0⟩ := trodAll_cons hA
  obtain ⟨v1, vs1, d1, ds1, p1, q1, rfl, rfl, rfl, h1, r1⟩ := trodAll_cons r0
  obtain ⟨rfl, rfl, rfl⟩ := trodAll_nil r1
  obtain rfl : args = #[v0, v1] := by cases args; simp_all
  obtain ⟨rfl, rfl⟩ := trodVars_none hV
  obtain ⟨A0, c0, xs0, rfl, hm0, hx0⟩ := open_bytes Tryd.underlying23 Tryd.underlying5 (by kernel_rfl) (hval 0 23 v0 rfl rfl) h0
  obtain ⟨a1, rfl, rfl, rfl, w1⟩ := open_int Tryd.underlying3 (hval 1 3 v1 rfl rfl) h1
  clear hA0 hA
  unfold maxLen at hm0
  have b1 := bounds_i64 w1
  refine (fputs_walk A0 c0 xs0 a1 W (table hL) hx0 (by omega)).mono fun e W' ⟨he, hg⟩ => ?_
  subst he
  exact ⟨_, rfl, law_end laidOut (by kernel_rfl) (by kernel_rfl) Tryd.underlying4 rfl hW' ⟨rfl, rfl, rfl⟩ hg⟩

theorem framePuts_met (os : Os) : laidMet Tryd.prog Rows.framePutsRow.laid ((laidWorld os).forCall (fun _ _ => 0) ⟨#[], #[.slice none 0 0, .int .i64 0], []⟩).memory :=
  laidMet_of_run' 8 (by kernel_rfl) (by kernel_rfl)
theorem framePuts_reads (os : Os) {H : Type} (enc : TypeId × Value → H) : ∃ places, DataW.whole enc Tryd.prog ((laidWorld os).forCall (fun _ _ => 0) ⟨#[], #[.slice none 0 0, .int .i64 0], []⟩).memory Tryd.f5.params.toList Rows.framePutsSpec.vars false (#[.slice none 0 0, .int .i64 0] : Array Value).toList 8 = some ([.nil, .lit (.int .i64 0)], [], places) :=
  ⟨[], by kernel_rfl⟩

set_option maxRecDepth 100000 in
theorem framePuts_lifted (os : Os) (started : os.Started) (H : Type) (enc : TypeId × Value → H) (F : Stop.Interp) :
    ReturnsInHanded {} Tryd.checked os 5 .any ((OpenSpec.ofChange Rows.framePutsSpec).preRow enc Tryd.prog Tryd.f5 Rows.framePutsRow.domain false Rows.framePutsRow.laid) (((OpenSpec.ofChange Rows.framePutsSpec).at F).post enc Tryd.prog Tryd.f5 false true false false) := by
  obtain ⟨places, hx⟩ := framePuts_reads os enc
  refine returnsInHanded_of_row (C := Tryd.checked) (s := OpenSpec.ofChange Rows.framePutsSpec) ownKn started (by kernel_rfl) Tryd.func5
    (witness_row_at (enc := enc) (C := Tryd.checked) false (laidWorld os) #[.slice none 0 0, .int .i64 0] rfl (by kernel_rfl) (by kernel_rfl) (by kernel_rfl)
      (OpenSpec.preRow_of_cond 8 hx (by kernel_rfl) (fun k hk => by cases hk) (by kernel_rfl) (framePuts_met os))) ?_
  intro W base args ds gs before hval hW _ _ _ hL _ _
  exact framePuts_contract H enc W base args ds gs before hval hW hL

theorem framePuts_said : Rows.FramePutsSaid :=
  OpenClaim.holds_of_cond 5 Tryd.f5 rfl rfl rfl rfl rfl rfl rfl ⟨rfl, rfl, rfl, rfl, rfl⟩ rfl rfl rfl rfl rfl (by kernel_rfl) Tryd.func5 (by kernel_rfl)
    (of_decide_eq_true (by kernel_rfl)) (by unfold Func.isWrapper; first | (rw [if_pos (by decide +kernel)]; kernel_rfl) | (rw [if_neg (by decide +kernel)]; exact ⟨rfl, rfl⟩))
    (fun os started H enc _ F => by rw [OpenClaim.pre_eq_preRow]; exact framePuts_lifted os started H enc F)

theorem framePuts_plain (f : FuncId) (fn : Func) (hf : Tryd.pinned.checked.prog.funcNamed "manometer/manometerlaw02.FramePuts" = some f) (hfn : Tryd.pinned.checked.prog.funcs[f]? = some fn) :
    false = Tryd.pinned.checked.prog.looks [] ∧ ∀ (j : Nat) t, fn.params[j]? = some t → Tryd.pinned.checked.prog.wantsStandIn t = false := by
  obtain rfl : f = 5 := Option.some.inj ((show Tryd.prog.funcNamed "manometer/manometerlaw02.FramePuts" = some 5 by kernel_rfl).symm.trans hf) |>.symm
  obtain rfl : fn = Tryd.f5 := (Option.some.inj (Tryd.func5.symm.trans hfn)).symm
  refine ⟨by kernel_rfl, fun j t ht => ?_⟩
  rw [Tryd.params5] at ht
  have hm : t = 23 ∨ t = 3 := by simpa using Array.mem_of_getElem? ht
  rcases hm with rfl | rfl
  · exact (show Tryd.prog.wantsStandIn 23 = false by kernel_rfl)
  · exact (show Tryd.prog.wantsStandIn 3 = false by kernel_rfl)

theorem framePuts_card : Rows.FramePutsCardSaid :=
  Claim7.holds_tied_plain_at .later [] _ _ _ _ framePuts_said (fun _ h => by cases h) (by kernel_rfl) (fun _ h => by cases h) framePuts_row_tie rfl ⟨rfl, rfl⟩ (by kernel_rfl) rfl framePuts_plain (by kernel_rfl)
#print axioms framePuts_card
end
end Go.Proofs.YtnbgpmgcnfhfeaaDoor
